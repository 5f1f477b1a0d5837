/-
  The law WeighOne.
-/
import Derived.Test.YtefikbjjdldomaaPN
import Derived.Test.YtefikbjjdldomaaFB
import Derived.Test.YtefikbjjdldomaaOpenN
import Derived.BigQuiet
import Derived.Deep.RegionHeld3
import Derived.Lib.MinMax
import Derived.Deep.DeepCutAuto
namespace Go.Proofs.Ytefikbjjdldomaa.WOne
open Go.RowKit Go.Deep
open _root_.Go.Proofs.Ytefikbjjdldomaa.Nm Wm Dm Sk

theorem wei_two (v u : Value) (w : World) (hv : SlE w v [(0, 1, 5)]) (hu : SlI w u [0, 0]) : Calls Try.prog 19 #[.agg #[.int .i64 2, v], .int .i64 0, .int .i64 1, u, .agg #[.int .i64 3, .int .i64 2]] w fun e w' => Fo w w' e 5 [0, 1] [0, 1] :=
  (wrun_yes 2 0 1 3 2 v u _ _ w hv hu (by simp) (by simp) (by omega) (by omega) pn_two (by kernel_rfl) (by kernel_rfl) rfl (rng_two (by decide) (by decide))).mono fun e w' h => bk9_of h (by kernel_rfl)
theorem one_any (w : World) : Calls Try.prog 28 #[] w fun e w' => e = .returned (.agg #[.int .i64 1, .int .i64 1]) ∧ Below w.heap.size w w' := by
  go_enter Try.func28, Try.ntmps28
  go_wp2_with fail
  have y0 := cell_new w #[.int .i64 1, .int .i64 1] 39 0 _ rfl
  have y1 := cell_new w #[.int .i64 1, .int .i64 1] 39 1 _ rfl
  exact bodyPost_ret (v := .agg #[.int .i64 1, .int .i64 1]) (by simp [results, Try.results28, go_sem, y0, y1]) rfl ⟨rfl, balloc (Below.refl _ _) _⟩
theorem put_at {w : World} {B k : Nat} (hne : k ≠ B) (x1 x2 x3 : Value) : (((w.setCell ⟨B, 0, none⟩ x1).setCell ⟨B, 1, none⟩ x2).setCell ⟨B, 2, none⟩ x3).heap[k]? = w.heap[k]? := by
  rw [Below.heap_setCell _ _ _ _ hne, Below.heap_setCell _ _ _ _ hne, Below.heap_setCell _ _ _ _ hne]
theorem box_put {w : World} {B k : Nat} {n : Int} {v : Value} (h : Box2 w k n v) (hne : k ≠ B) (x1 x2 x3 : Value) : Box2 (((w.setCell ⟨B, 0, none⟩ x1).setCell ⟨B, 1, none⟩ x2).setCell ⟨B, 2, none⟩ x3) k n v :=
  ⟨cell_block (put_at hne x1 x2 x3) h.g0, cell_block (put_at hne x1 x2 x3) h.g1⟩
set_option maxRecDepth 100000 in
set_option maxHeartbeats 32000000 in
theorem walk (n s t num den : Int) (v u : Value) (es : List E) (h : List Int) (w : World) (hv : SlE w v es) (hu : SlI w u h) (hlen : es.length ≤ 9223372036854775807) (hhl : h.length ≤ 9223372036854775807) :
    Calls Try.prog 9 #[.agg #[.int .i64 n, v], .int .i64 s, .int .i64 t, u, .agg #[.int .i64 num, .int .i64 den]] w fun e w' => e = .returned (.bool true) ∧ Below w.heap.size w w' := by
  obtain ⟨a0, c0, rfl⟩ := hv.val
  obtain ⟨a1, c1, rfl⟩ := hu.val
  have HV : Hid _ := hv
  have HU : Hid _ := hu
  clear hv hu
  go_enter Try.func9, Try.ntmps9
  have P0 : Hid _ := (box2_new w n (.slice a0 es.length c0) 24).below (balloc (Below.refl _ _) (.cells #[.int .i64 num, .int .i64 den] 39))
  have RBW : Hid (w.heap.size < w.heap.size + 1) := by unfold Hid; omega
  have V0 : Hid (((w.alloc (.cells #[.int .i64 n, .slice a0 es.length c0] 24)).alloc (.cells #[.int .i64 num, .int .i64 den] 39)).heap[w.heap.size + 1]? = some (.cells #[.int .i64 num, .int .i64 den] 39 (0, 0))) := new_at _ _ (by simp)
  have B0 : Hid (Below w.heap.size w ((w.alloc (.cells #[.int .i64 n, .slice a0 es.length c0] 24)).alloc (.cells #[.int .i64 num, .int .i64 den] 39))) := balloc (balloc (Below.refl _ _) _) _
  obtain ⟨RB, hRB⟩ : ∃ RB, w.heap.size + 1 = RB := ⟨_, rfl⟩
  rw [hRB] at V0 RBW
  go_wp2_with fail
  clear hRB
  generalize (w.alloc (.cells #[.int .i64 n, .slice a0 es.length c0] 24)).alloc (.cells #[.int .i64 num, .int .i64 den] 39) = W0 at *
  refine (two_any W0).mono ?_
  rintro e w1 ⟨X, rfl, e1, b1⟩
  have B1 : Hid (Below W0.heap.size W0 w1) := b1
  have E1 : Hid _ := e1.below (balloc (Below.refl _ _) (.cells #[.int .i64 0, .int .i64 0] 3))
  have L1 : Hid _ := lit_nums w1 [0, 0] #[.int .i64 0, .int .i64 0] 2 rfl rfl
  clear b1 e1
  go_wp2_with fail
  refine (wei_two _ _ _ E1.out L1.out).mono ?_
  rintro e w2 ⟨vp, vo, rfl, ip, io, b2⟩
  have B2 : Hid (Below W0.heap.size W0 w2) := bthen (balloc B1.out _) b2
  obtain ⟨ap, cp, rfl⟩ := ip.sl.val
  obtain ⟨ao, co, rfl⟩ := io.sl.val
  have IQ : Hid _ := io.sl
  have LEN : Hid ((ints [0, 1]).length = 2) := rfl
  have FB : Hid (Below w2.heap.size w2 ((w2.alloc (.cells #[.slice ap (ints [0, 1]).length cp, .int .i64 5, .slice ao (ints [0, 1]).length co] 29)).alloc (.cells #[.int .i64 0, .int .i64 1] 3))) := balloc (balloc (Below.refl _ _) _) _
  have IQ2 : Hid _ := IQ.out.below FB.out
  have L2 : Hid (SlI ((w2.alloc (.cells #[.slice ap (ints [0, 1]).length cp, .int .i64 5, .slice ao (ints [0, 1]).length co] 29)).alloc (.cells #[.int .i64 0, .int .i64 1] 3)) (.slice (some ⟨w2.heap.size + 1, 0, none⟩) 2 2) [0, 1]) := by
    have h1 := lit_nums (w2.alloc (.cells #[.slice ap (ints [0, 1]).length cp, .int .i64 5, .slice ao (ints [0, 1]).length co] 29)) [0, 1] #[.int .i64 0, .int .i64 1] 2 rfl rfl
    have e1 : (w2.alloc (.cells #[.slice ap (ints [0, 1]).length cp, .int .i64 5, .slice ao (ints [0, 1]).length co] 29)).heap.size = w2.heap.size + 1 := by simp
    rw [e1] at h1
    exact h1
  clear b2 E1 L1 B1 ip io
  go_wp2_with fail
  refine (iequal_yes _ _ [0, 1] _ IQ2.out L2.out (by simp)).mono ?_
  rintro e w3 ⟨rfl, b3⟩
  have Z3 : Hid (Below W0.heap.size W0 w3) := bthen B2.out (bthen FB.out b3)
  have B3 : Hid (Below w.heap.size w w3) := bthen B0.out Z3.out
  have P3 : Hid _ := P0.out.below Z3.out
  have V3 : Hid _ := (Z3.out.block _ (heap_lt' V0.out)).trans V0.out
  clear b3 FB IQ2 L2 IQ B2 Z3 P0 B0 V0
  obtain ⟨p0, p1⟩ := P3.out
  go_wp2_with fail
  clear p0 p1
  refine (srun_av n s t _ _ es h w3 (HV.out.below B3.out) (HU.out.below B3.out) hlen hhl).mono ?_
  rintro e w4 ⟨vx, vz, rfl, ix, iz, b4⟩
  obtain ⟨A, hA⟩ : ∃ A, ans (sls n es s t h) (res n s t es h (fun c g => c + g)) = A := ⟨_, rfl⟩
  have HA : Hid _ := hA
  rw [hA] at ix iz ⊢
  obtain ⟨A0, A1, AP, AO⟩ := A
  simp only at ix iz ⊢
  obtain ⟨ax0, cx0, rfl⟩ := ix.sl.val
  obtain ⟨az0, cz0, rfl⟩ := iz.sl.val
  have LP : Hid (AP.length ≤ 9223372036854775807) := ix.short
  have LO : Hid (AO.length ≤ 9223372036854775807) := iz.short
  have B5 : Hid (Below w.heap.size w (w4.alloc (.cells #[.slice ax0 AP.length cx0, .int .i64 A1, .slice az0 AO.length cz0] 29))) := balloc (bthen B3.out b4) _
  have P5 : Hid _ := P3.out.below (bthen b4 (balloc (Below.refl _ _) (.cells #[.slice ax0 AP.length cx0, .int .i64 A1, .slice az0 AO.length cz0] 29)))
  have V5 : Hid _ := ((bthen b4 (balloc (Below.refl _ _) (.cells #[.slice ax0 AP.length cx0, .int .i64 A1, .slice az0 AO.length cz0] 29))).block _ (heap_lt' V3.out)).trans V3.out
  have RA5 : Hid (Rb (w4.alloc (.cells #[.slice ax0 AP.length cx0, .int .i64 A1, .slice az0 AO.length cz0] 29)) w4.heap.size (.slice ax0 AP.length cx0) (.int .i64 A1) (.slice az0 AO.length cz0)) := ⟨heap_alloc_new w4 _⟩
  have IX5 : Hid _ := ix.sl.below (balloc (Below.refl _ _) (.cells #[.slice ax0 AP.length cx0, .int .i64 A1, .slice az0 AO.length cz0] 29))
  have IZ5 : Hid _ := iz.sl.below (balloc (Below.refl _ _) (.cells #[.slice ax0 AP.length cx0, .int .i64 A1, .slice az0 AO.length cz0] 29))
  obtain ⟨FA, hFA⟩ : ∃ FA, w4.heap.size = FA := ⟨_, rfl⟩
  have FW : Hid (w.heap.size < RB ∧ RB < FA) := ⟨RBW.out, by rw [← hFA]; exact Nat.lt_of_lt_of_le (heap_lt' V3.out) b4.size⟩
  have AB : Hid (FA < (w4.alloc (.cells #[.slice ax0 AP.length cx0, .int .i64 A1, .slice az0 AO.length cz0] 29)).heap.size) := by unfold Hid; simp; omega
  clear b4 ix iz hA P3 V3
  go_upto_region 5 with fail
  rw [hFA] at RA5
  clear hFA
  generalize w4.alloc (.cells #[.slice ax0 AP.length cx0, .int .i64 A1, .slice az0 AO.length cz0] 29) = W5 at *
  obtain ⟨p0, p1⟩ := P5.out
  have ONE : Hid (∀ W, Calls Try.prog 28 #[] W fun e w' => e = .returned (.agg #[.int .i64 1, .int .i64 1]) ∧ Below W.heap.size W w') := fun W => one_any W
  have WR : Hid (∀ W, Below W5.heap.size W5 W → Calls Try.prog 19 #[.agg #[.int .i64 n, .slice a0 es.length c0], .int .i64 s, .int .i64 t, .slice a1 h.length c1, .agg #[.int .i64 1, .int .i64 1]] W fun e w' => ∃ ax cx az cz, e = .returned (.tuple #[.agg #[.slice ax AP.length cx, .int .i64 A1, .slice az AO.length cz], .int .i64 A0]) ∧ Is w' W.heap.size (.slice ax AP.length cx) AP ∧ Is w' W.heap.size (.slice az AO.length cz) AO ∧ Below W.heap.size W w') := fun W hb => by
    have h1 := wrun_av n s t 1 1 _ _ es h W (HV.out.below (bthen B5.out hb)) (HU.out.below (bthen B5.out hb)) hlen hhl
    rw [ans_one, HA.out] at h1
    refine h1.mono ?_
    rintro e w' ⟨x, z, rfl, i1, i2, b⟩
    obtain ⟨ax, cx, rfl⟩ := i1.sl.val
    obtain ⟨az, cz, rfl⟩ := i2.sl.val
    exact ⟨ax, cx, az, cz, rfl, i1, i2, b⟩
  have x0 := kept_alloc (x := (.cells #[.slice none 0 0, .int .i64 0, .slice none 0 0] 29)) p0
  have x1 := kept_alloc (x := (.cells #[.slice none 0 0, .int .i64 0, .slice none 0 0] 29)) p1
  have R0 : Hid (Rb (W5.alloc (.cells #[.slice none 0 0, .int .i64 0, .slice none 0 0] 29)).drew W5.heap.size (.slice none 0 0) (.int .i64 0) (.slice none 0 0)) := ⟨heap_alloc_new W5 _⟩
  have BD : Hid (Below W5.heap.size W5 W5.drew) := Below.drew (Below.refl _ _)
  have BDA : Hid (Below W5.heap.size W5 (W5.alloc (.cells #[.slice none 0 0, .int .i64 0, .slice none 0 0] 29)).drew) := Below.drew (balloc (Below.refl _ _) _)
  go_cut [15, 16] (fun fb er wx => ∃ F ax cx az cz, er = .int .i64 A0 ∧ fb = .pointer (some ⟨F, 0, none⟩) ∧ W5.heap.size ≤ F ∧ Rb wx F (.slice ax AP.length cx) (.int .i64 A1) (.slice az AO.length cz) ∧ SlI wx (.slice ax AP.length cx) AP ∧ SlI wx (.slice az AO.length cz) AO ∧ Below W5.heap.size W5 wx)
  case first =>
    go_region_law (first
      | (go_simp; go_at_call 28; refine (ONE.out _).mono ?_; rintro e w6 ⟨rfl, b6⟩; have B6 : Hid (Below W5.heap.size W5 w6) := bthen (by first | with_reducible exact BD.out | with_reducible exact BDA.out) b6; (first | have R6 : Hid (Rb w6 W5.heap.size (.slice none 0 0) (.int .i64 0) (.slice none 0 0)) := R0.out.below b6 | skip); have q0 := kept B6.out p0; have q1 := kept B6.out p1; have qx0 := kept_alloc (x := (.cells #[.slice none 0 0, .int .i64 0, .slice none 0 0] 29)) q0; have qx1 := kept_alloc (x := (.cells #[.slice none 0 0, .int .i64 0, .slice none 0 0] 29)) q1; have RN6 : Hid (Rb (w6.alloc (.cells #[.slice none 0 0, .int .i64 0, .slice none 0 0] 29)) w6.heap.size (.slice none 0 0) (.int .i64 0) (.slice none 0 0)) := ⟨heap_alloc_new w6 _⟩; have BN6 : Hid (Below W5.heap.size W5 (w6.alloc (.cells #[.slice none 0 0, .int .i64 0, .slice none 0 0] 29))) := balloc B6.out _; clear b6; (try dsimp only))
      | (go_simp; go_at_call 19; refine (WR.out _ (by first | with_reducible exact B6.out | with_reducible exact BN6.out)).mono ?_; rintro e w7 ⟨ax, cx, az, cz, rfl, i1, i2, b7⟩; have I1 : Hid _ := i1; have I2 : Hid _ := i2; have B7 : Hid (Below W5.heap.size W5 w7) := bthen (by first | with_reducible exact B6.out | with_reducible exact BN6.out) b7; (first | (have R7 : Hid (Rb w7 w6.heap.size (.slice none 0 0) (.int .i64 0) (.slice none 0 0)) := RN6.out.below b7; have LT := RN6.out.lt; have FL : Hid (W5.heap.size ≤ w6.heap.size) := B6.out.size; obtain ⟨y0, y1, y2⟩ := R7.out.cell; obtain ⟨z0, z1, z2⟩ := R7.out.frozen) | (have R7 : Hid (Rb w7 W5.heap.size (.slice none 0 0) (.int .i64 0) (.slice none 0 0)) := R6.out.below b7; have LT := R6.out.lt; have FL : Hid (W5.heap.size ≤ W5.heap.size) := Nat.le_refl _; obtain ⟨y0, y1, y2⟩ := R7.out.cell; obtain ⟨z0, z1, z2⟩ := R7.out.frozen) | skip); clear b7 i1 i2; (try dsimp only))
      | fail)
    all_goals
      go_wp2_with fail
      go_meet
      first
        | exact ⟨_, ax, cx, az, cz, rfl, rfl, B7.out.size, ⟨heap_alloc_new _ _⟩, I1.out.sl.below (balloc (Below.refl _ _) _), I2.out.sl.below (balloc (Below.refl _ _) _), balloc B7.out _⟩
        | exact ⟨_, ax, cx, az, cz, rfl, rfl, FL.out, R7.out.put _ _ _, (((I1.out.other LT).other LT).other LT).sl, (((I2.out.other LT).other LT).other LT).sl, rb_below B7.out FL.out _ _ _⟩
  case rest =>
    obtain ⟨F, ax, cx, az, cz, rfl, rfl, hF, rb, i1, i2, b7⟩ := hcut
    have FN : Hid (FA < F) := by have := AB.out; unfold Hid; omega
    have B7 : Hid (Below w.heap.size w wc) := bthen B5.out b7
    have P7 : Hid _ := P5.out.below b7
    have V7 : Hid _ := (b7.block _ (heap_lt' V5.out)).trans V5.out
    have RA7 : Hid _ := RA5.out.below b7
    have R7 : Hid _ := rb
    have CS : Hid _ := fun (_ : Unit) => samefound_yes A1 _ _ _ _ AP AO wc (IX5.out.below b7) i1 (IZ5.out.below b7) i2 LP.out LO.out
    have ZN : Hid (W5.heap.size ≤ wc.heap.size) := b7.size
    clear x0 x1 R0 BD BDA ONE WR IX5 IZ5 RA5 V5 P5 b7 rb i1 i2 hF p0 p1 B5
    obtain ⟨k0, k1, k2⟩ := RA7.out.cell
    obtain ⟨m0, m1, m2⟩ := R7.out.cell
    go_wp2_with fail
    refine (CS.out ()).mono ?_
    rintro e w8 ⟨rfl, b8⟩
    have B8 : Hid (Below w.heap.size w w8) := bthen B7.out b8
    have P8 : Hid _ := P7.out.below b8
    have V8 : Hid _ := (b8.block _ (heap_lt' V7.out)).trans V7.out
    have RA8 : Hid _ := RA7.out.below b8
    have R8 : Hid _ := R7.out.below b8
    clear k0 k1 k2 m0 m1 m2 b8 CS B7 P7 V7 RA7 R7 HA
    have v0 : w8.cell? ⟨RB, 0, none⟩ = some (.int .i64 num) := by simp [World.cell?, V8.out]
    have v1 : w8.cell? ⟨RB, 1, none⟩ = some (.int .i64 den) := by simp [World.cell?, V8.out]
    go_wp2_with fail
    refine (weight_any num den w8).mono ?_
    rintro e w9 ⟨rfl, b9⟩
    have B9 : Hid (Below w.heap.size w w9) := bthen B8.out b9
    have P9 : Hid _ := P8.out.below b9
    have V9 : Hid _ := (b9.block _ (heap_lt' V8.out)).trans V8.out
    have RA9 : Hid _ := RA8.out.below b9
    have R9 : Hid _ := R8.out.below b9
    clear v0 v1 b9 B8 P8 V8 RA8 R8
    by_cases hwk : wtk num den = 0
    · have HW : Hid _ := hwk
      rw [hwk]
      clear hwk
      obtain ⟨p0, p1⟩ := P9.out
      obtain ⟨K, hK⟩ : ∃ K : Nat, max 0 (min n 64) = (K : Int) := ⟨(max 0 (min n 64)).toNat, by omega⟩
      have hK64 : K ≤ 64 := by omega
      have hmk := made_ur K hK64
      have UM : Hid (Ur (w9.alloc (.cells (Array.ofFn (n := K) fun _ => .int .i64 0) 3)) w9.heap.size K (fun _ => 0)) := ⟨heap_alloc_new w9 _⟩
      have BM : Hid (Below w.heap.size w (w9.alloc (.cells (Array.ofFn (n := K) fun _ => .int .i64 0) 3))) := balloc B9.out _
      have PM : Hid _ := P9.out.below (balloc (Below.refl _ _) (.cells (Array.ofFn (n := K) fun _ => .int .i64 0) 3))
      have VM : Hid _ := ((balloc (Below.refl _ _) (.cells (Array.ofFn (n := K) fun _ => .int .i64 0) 3) : Below w9.heap.size w9 _).block _ (heap_lt' V9.out)).trans V9.out
      have RAM : Hid _ := RA9.out.below (balloc (Below.refl _ _) (.cells (Array.ofFn (n := K) fun _ => .int .i64 0) 3))
      have RM : Hid _ := R9.out.below (balloc (Below.refl _ _) (.cells (Array.ofFn (n := K) fun _ => .int .i64 0) 3))
      obtain ⟨ZB, hZB⟩ : ∃ ZB, w9.heap.size = ZB := ⟨_, rfl⟩
      have ZF : Hid (F < ZB) := by rw [← hZB]; exact R9.out.lt
      go_upto_region 11 with fail
      rw [hZB] at UM
      clear hZB hmk hK p0 p1 P9 V9 RA9 R9 B9
      generalize w9.alloc (.cells (Array.ofFn (n := K) fun _ => .int .i64 0) 3) = W10 at *
      have ZW : Hid (ZB < W10.heap.size) := UM.out.lt
      obtain ⟨p0, p1⟩ := PM.out
      go_wp2_with fail
      refine (srun_av n s t _ _ es (zer K) W10 (HV.out.below BM.out) UM.out.sl hlen (by simp [zer, lst_length]; omega)).mono ?_
      rintro e w11 ⟨vx, vz, rfl, ix, iz, b11⟩
      obtain ⟨C, hC⟩ : ∃ C, ans (sls n es s t (zer K)) (res n s t es (zer K) (fun c g => c + g)) = C := ⟨_, rfl⟩
      have HCC : Hid _ := hC
      rw [hC] at ix iz ⊢
      obtain ⟨C0, C1, CP, CO⟩ := C
      simp only at ix iz ⊢
      obtain ⟨dx, ex, rfl⟩ := ix.sl.val
      obtain ⟨dz, ez, rfl⟩ := iz.sl.val
      have LPC : Hid (CP.length ≤ 9223372036854775807) := ix.short
      have LOC : Hid (CO.length ≤ 9223372036854775807) := iz.short
      have RA11 : Hid _ := RAM.out.below b11
      have f1 := FW.out.1
      have f2 := FW.out.2
      have f3 := FN.out
      have f4 := ZF.out
      have f5 := ZW.out
      have B11 : Hid (Below w.heap.size w w11) := bthen BM.out b11
      have RA12 : Hid _ := RA11.out.put (.slice dx CP.length ex) (.int .i64 C1) (.slice dz CO.length ez)
      have B12 : Hid _ := rb_below B11.out (show w.heap.size ≤ FA by omega) (.slice dx CP.length ex) (.int .i64 C1) (.slice dz CO.length ez)
      have P12 : Hid _ := box_put (PM.out.below b11) (show w.heap.size ≠ FA by omega) (.slice dx CP.length ex) (.int .i64 C1) (.slice dz CO.length ez)
      have V12 : Hid _ := (put_at (show RB ≠ FA by omega) (.slice dx CP.length ex) (.int .i64 C1) (.slice dz CO.length ez)).trans ((b11.block _ (heap_lt' VM.out)).trans VM.out)
      have R12 : Hid _ := (⟨(put_at (show F ≠ FA by omega) (.slice dx CP.length ex) (.int .i64 C1) (.slice dz CO.length ez)).trans (RM.out.below b11).at_⟩ : Rb (((w11.setCell ⟨FA, 0, none⟩ (.slice dx CP.length ex)).setCell ⟨FA, 1, none⟩ (.int .i64 C1)).setCell ⟨FA, 2, none⟩ (.slice dz CO.length ez)) F _ _ _)
      have UM12 : Hid _ := (⟨(put_at (show ZB ≠ FA by omega) (.slice dx CP.length ex) (.int .i64 C1) (.slice dz CO.length ez)).trans (UM.out.below b11).block⟩ : Ur (((w11.setCell ⟨FA, 0, none⟩ (.slice dx CP.length ex)).setCell ⟨FA, 1, none⟩ (.int .i64 C1)).setCell ⟨FA, 2, none⟩ (.slice dz CO.length ez)) ZB K (fun _ => 0))
      have hFA : FA < W10.heap.size := by omega
      have IX12 : Hid _ := ((ix.other (o := 0) (u := .slice dx CP.length ex) hFA).other (o := 1) (u := .int .i64 C1) hFA).other (o := 2) (u := .slice dz CO.length ez) hFA
      have IZ12 : Hid _ := ((iz.other (o := 0) (u := .slice dx CP.length ex) hFA).other (o := 1) (u := .int .i64 C1) hFA).other (o := 2) (u := .slice dz CO.length ez) hFA
      have ZZ : Hid (W10.heap.size ≤ (((w11.setCell ⟨FA, 0, none⟩ (.slice dx CP.length ex)).setCell ⟨FA, 1, none⟩ (.int .i64 C1)).setCell ⟨FA, 2, none⟩ (.slice dz CO.length ez)).heap.size) := by have := b11.size; unfold Hid; simp [World.setCell]; omega
      obtain ⟨k0, k1, k2⟩ := RA11.out.cell
      obtain ⟨z0, z1, z2⟩ := RA11.out.frozen
      clear b11 ix iz hC p0 p1 f1 f2 f3 f4 f5 PM VM RAM RM UM BM
      go_upto_region 12 with fail
      clear k0 k1 k2 z0 z1 z2 RA11 B11 hFA
      generalize (((w11.setCell ⟨FA, 0, none⟩ (.slice dx CP.length ex)).setCell ⟨FA, 1, none⟩ (.int .i64 C1)).setCell ⟨FA, 2, none⟩ (.slice dz CO.length ez)) = W12 at *
      obtain ⟨p0, p1⟩ := P12.out
      have v0 : W12.cell? ⟨RB, 0, none⟩ = some (.int .i64 num) := by simp [World.cell?, V12.out]
      have v1 : W12.cell? ⟨RB, 1, none⟩ = some (.int .i64 den) := by simp [World.cell?, V12.out]
      have WR : Hid _ := fun (_ : Unit) => wrun_av n s t num den _ _ es (zer K) W12 (HV.out.below B12.out) UM12.out.sl hlen (by simp [zer, lst_length]; omega)
      rw [ans_zero n s t num den es K HW.out, HCC.out] at WR
      go_wp2_with fail
      refine (WR.out ()).mono ?_
      rintro e w13 ⟨vx, vz, rfl, ix, iz, b13⟩
      simp only at ix iz ⊢
      obtain ⟨gx, jx, rfl⟩ := ix.sl.val
      obtain ⟨gz, jz, rfl⟩ := iz.sl.val
      have R13 : Hid _ := R12.out.below b13
      have RA13 : Hid _ := RA12.out.below b13
      have B13 : Hid (Below w.heap.size w w13) := bthen B12.out b13
      have f1 := FW.out.1
      have f2 := FW.out.2
      have f3 := FN.out
      have f4 := ZF.out
      have f5 := ZW.out
      have f6 := ZZ.out
      have R14 : Hid _ := R13.out.put (.slice gx CP.length jx) (.int .i64 C1) (.slice gz CO.length jz)
      have B14 : Hid _ := rb_below B13.out (show w.heap.size ≤ F by omega) (.slice gx CP.length jx) (.int .i64 C1) (.slice gz CO.length jz)
      have RA14 : Hid _ := (⟨(put_at (show FA ≠ F by omega) (.slice gx CP.length jx) (.int .i64 C1) (.slice gz CO.length jz)).trans RA13.out.at_⟩ : Rb (((w13.setCell ⟨F, 0, none⟩ (.slice gx CP.length jx)).setCell ⟨F, 1, none⟩ (.int .i64 C1)).setCell ⟨F, 2, none⟩ (.slice gz CO.length jz)) FA _ _ _)
      have hF1 : F < W10.heap.size := by omega
      have hF2 : F < W12.heap.size := by omega
      have IX13 := IX12.out.below b13
      have IZ13 := IZ12.out.below b13
      have CS : Hid _ := fun (_ : Unit) => samefound_yes C1 _ _ _ _ CP CO _ (((IX13.other (o := 0) (u := .slice gx CP.length jx) hF1).other (o := 1) (u := .int .i64 C1) hF1).other (o := 2) (u := .slice gz CO.length jz) hF1).sl (((ix.other (o := 0) (u := .slice gx CP.length jx) hF2).other (o := 1) (u := .int .i64 C1) hF2).other (o := 2) (u := .slice gz CO.length jz) hF2).sl (((IZ13.other (o := 0) (u := .slice gx CP.length jx) hF1).other (o := 1) (u := .int .i64 C1) hF1).other (o := 2) (u := .slice gz CO.length jz) hF1).sl (((iz.other (o := 0) (u := .slice gx CP.length jx) hF2).other (o := 1) (u := .int .i64 C1) hF2).other (o := 2) (u := .slice gz CO.length jz) hF2).sl LPC.out LOC.out
      obtain ⟨k0, k1, k2⟩ := R13.out.cell
      obtain ⟨z0, z1, z2⟩ := R13.out.frozen
      clear f1 f2 f3 f4 f5 f6 p0 p1 v0 v1 ix iz IX13 IZ13 b13 hF1 hF2
      go_upto_region 13 with fail
      clear k0 k1 k2 z0 z1 z2 R13 RA13 B13
      generalize ((w13.setCell ⟨F, 0, none⟩ (.slice gx CP.length jx)).setCell ⟨F, 1, none⟩ (.int .i64 C1)).setCell ⟨F, 2, none⟩ (.slice gz CO.length jz) = W14 at *
      obtain ⟨k0, k1, k2⟩ := RA14.out.cell
      obtain ⟨m0, m1, m2⟩ := R14.out.cell
      go_wp2_with fail
      refine (CS.out ()).mono ?_
      rintro e w15 ⟨rfl, b15⟩
      have B15 : Hid (Below w.heap.size w w15) := bthen B14.out b15
      go_wp2_with fail
      go_ret
      exact ⟨rfl, B15.out⟩
    · have hz : (wtk num den != 0) = true := by simp [hwk]
      clear hwk
      go_wp2_with fail
      go_ret
      exact ⟨rfl, B9.out⟩
end Go.Proofs.Ytefikbjjdldomaa.WOne
