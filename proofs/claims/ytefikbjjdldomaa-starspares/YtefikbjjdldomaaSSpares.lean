/-
  The law StarSpares.
-/
import Derived.Test.YtefikbjjdldomaaPV
import Derived.Test.YtefikbjjdldomaaOpenN
import Derived.Test.YtefikbjjdldomaaDN
import Derived.BigQuiet
namespace Go.Proofs.Ytefikbjjdldomaa.SSpares
open Go.RowKit Go.Deep
open _root_.Go.Proofs.Ytefikbjjdldomaa.Nm Wm Dm Sk

/-- What is answered, by its parts. -/
def Rz (w' : World) (z0 : Nat) (A : Int × Int × List Int × List Int) (x : Value) (c : Int) (z : Value) (er : Int) : Prop := er = A.1 ∧ c = A.2.1 ∧ Is w' z0 x A.2.2.1 ∧ Is w' z0 z A.2.2.2
theorem Rz.below {w w' : World} {z0 : Nat} {A : Int × Int × List Int × List Int} {x : Value} {c : Int} {z : Value} {er : Int} (h : Rz w z0 A x c z er) (hb : Below w.heap.size w w') : Rz w' z0 A x c z er := ⟨h.1, h.2.1, h.2.2.1.below hb, h.2.2.2.below hb⟩
theorem Rz.put {w : World} {z0 : Nat} {A : Int × Int × List Int × List Int} {x : Value} {c : Int} {z : Value} {er : Int} (h : Rz w z0 A x c z er) {B : Nat} (hB : B < z0) (x1 x2 x3 : Value) : Rz (((w.setCell ⟨B, 0, none⟩ x1).setCell ⟨B, 1, none⟩ x2).setCell ⟨B, 2, none⟩ x3) z0 A x c z er :=
  ⟨h.1, h.2.1, ((h.2.2.1.other hB).other hB).other hB, ((h.2.2.2.other hB).other hB).other hB⟩
theorem srun_rz (n s t : Int) (v u : Value) (es : List E) (h : List Int) (w : World) (A : Int × Int × List Int × List Int) (hA : ans (sls n es s t h) (res n s t es h (fun c g => c + g)) = A) (hv : SlE w v es) (hu : SlI w u h) (hlen : es.length ≤ 9223372036854775807) (hhl : h.length ≤ 9223372036854775807) :
    Calls Try.prog 11 #[.agg #[.int .i64 n, v], .int .i64 s, .int .i64 t, u] w fun e w' => ∃ ax lx cx c az lz cz er, e = .returned (.tuple #[.agg #[.slice ax lx cx, .int .i64 c, .slice az lz cz], .int .i64 er]) ∧ Rz w' w.heap.size A (.slice ax lx cx) c (.slice az lz cz) er ∧ Below w.heap.size w w' := by
  subst hA
  refine (srun_av n s t v u es h w hv hu hlen hhl).mono ?_
  rintro e w' ⟨vx, vz, rfl, ix, iz, hb⟩
  obtain ⟨ax, cx, hx⟩ := ix.sl.val
  obtain ⟨az, cz, hz⟩ := iz.sl.val
  subst hx hz
  exact ⟨_, _, _, _, _, _, _, _, rfl, ⟨rfl, rfl, ix, iz⟩, hb⟩
set_option maxRecDepth 100000 in
set_option maxHeartbeats 32000000 in
theorem walk (n s t : Int) (v u : Value) (es : List E) (h : List Int) (w : World) (hv : SlE w v es) (hu : SlI w u h) (hlen : es.length ≤ 9223372036854775807) (hhl : h.length ≤ 9223372036854775807) :
    Calls Try.prog 7 #[.agg #[.int .i64 n, v], .int .i64 s, .int .i64 t, u] w fun e w' => e = .returned (.bool true) ∧ Below w.heap.size w w' := by
  obtain ⟨a0, c0, rfl⟩ := hv.val
  obtain ⟨a1, c1, rfl⟩ := hu.val
  have HV : Hid _ := hv
  have HU : Hid _ := hu
  clear hv hu
  go_enter Try.func7, Try.ntmps7
  have P0 : Hid _ := box2_new w n (.slice a0 es.length c0) 24
  have B0 : Hid (Below w.heap.size w (w.alloc (.cells #[.int .i64 n, .slice a0 es.length c0] 24))) := balloc (Below.refl _ _) _
  go_wp2_with fail
  generalize w.alloc (.cells #[.int .i64 n, .slice a0 es.length c0] 24) = W0 at *
  refine (two_any W0).mono ?_
  rintro e w1 ⟨X, rfl, e1, b1⟩
  have B1 : Hid (Below W0.heap.size W0 w1) := b1
  have E1 : Hid _ := e1.below (balloc (Below.refl _ _) (.cells #[.int .i64 0, .int .i64 0] 3))
  have L1 : Hid _ := lit_nums w1 [0, 0] #[.int .i64 0, .int .i64 0] 2 rfl rfl
  clear b1 e1
  go_wp2_with fail
  refine (star_two1 _ _ _ E1.out L1.out).mono ?_
  rintro e w2 ⟨vp, vo, rfl, ip, io, b2⟩
  have B2 : Hid (Below W0.heap.size W0 w2) := bthen (balloc B1.out _) b2
  obtain ⟨ap, cp, rfl⟩ := ip.sl.val
  obtain ⟨ao, co, rfl⟩ := io.sl.val
  have IQ : Hid _ := io.sl
  have LEN : Hid ((ints [1]).length = 1) := rfl
  have FB : Hid (Below w2.heap.size w2 ((w2.alloc (.cells #[.slice ap (ints [1]).length cp, .int .i64 0, .slice ao (ints [1]).length co] 29)).alloc (.cells #[.int .i64 1] 3))) := balloc (balloc (Below.refl _ _) _) _
  have IQ2 : Hid _ := IQ.out.below FB.out
  have L2 : Hid (SlI ((w2.alloc (.cells #[.slice ap (ints [1]).length cp, .int .i64 0, .slice ao (ints [1]).length co] 29)).alloc (.cells #[.int .i64 1] 3)) (.slice (some ⟨w2.heap.size + 1, 0, none⟩) 1 1) [1]) := by
    have h1 := lit_nums (w2.alloc (.cells #[.slice ap (ints [1]).length cp, .int .i64 0, .slice ao (ints [1]).length co] 29)) [1] #[.int .i64 1] 1 rfl rfl
    have e1 : (w2.alloc (.cells #[.slice ap (ints [1]).length cp, .int .i64 0, .slice ao (ints [1]).length co] 29)).heap.size = w2.heap.size + 1 := by simp
    rw [e1] at h1
    exact h1
  clear b2 E1 L1 B1 ip io
  go_wp2_with fail
  refine (iequal_yes _ _ [1] _ IQ2.out L2.out (by simp)).mono ?_
  rintro e w3 ⟨rfl, b3⟩
  have Z3 : Hid (Below W0.heap.size W0 w3) := bthen B2.out (bthen FB.out b3)
  have B3 : Hid (Below w.heap.size w w3) := bthen B0.out Z3.out
  have P3 : Hid _ := P0.out.below Z3.out
  clear b3 FB IQ2 L2 IQ B2 Z3 P0 B0
  obtain ⟨p0, p1⟩ := P3.out
  go_wp2_with fail
  refine (srun_av n s t _ _ es h w3 (HV.out.below B3.out) (HU.out.below B3.out) hlen hhl).mono ?_
  rintro e w4 ⟨vx, vz, rfl, ix, iz, b4⟩
  obtain ⟨C, hC⟩ : ∃ C, ans (sls n es s t h) (res n s t es h (fun c g => c + g)) = C := ⟨_, rfl⟩
  have HCC : Hid _ := hC
  rw [hC] at ix iz ⊢
  obtain ⟨C0, C1, CP, CO⟩ := C
  simp only at ix iz ⊢
  obtain ⟨dx, ex, rfl⟩ := ix.sl.val
  obtain ⟨dz, ez, rfl⟩ := iz.sl.val
  have B4 : Hid (Below w.heap.size w w4) := bthen B3.out b4
  have IZ4 : Hid _ := iz.sl.below (balloc (Below.refl _ _) (.cells #[.slice dx CP.length ex, .int .i64 C1, .slice dz CO.length ez] 29))
  have R4 : Hid (Rb (w4.alloc (.cells #[.slice dx CP.length ex, .int .i64 C1, .slice dz CO.length ez] 29)) w4.heap.size (.slice dx CP.length ex) (.int .i64 C1) (.slice dz CO.length ez)) := ⟨heap_alloc_new w4 _⟩
  have P4 : Hid _ := P3.out.below (bthen b4 (balloc (Below.refl _ _) (.cells #[.slice dx CP.length ex, .int .i64 C1, .slice dz CO.length ez] 29)))
  have B5 : Hid (Below w.heap.size w (w4.alloc (.cells #[.slice dx CP.length ex, .int .i64 C1, .slice dz CO.length ez] 29))) := balloc B4.out _
  clear p0 p1 ix iz hC P3 B4
  obtain ⟨p0, p1⟩ := P4.out
  obtain ⟨F, hF⟩ : ∃ F, w4.heap.size = F := ⟨_, rfl⟩
  go_wp2_with fail
  generalize w4.alloc (.cells #[.slice dx CP.length ex, .int .i64 C1, .slice dz CO.length ez] 29) = W5 at *
  rw [hF] at R4
  have FN : Hid (w.heap.size ≤ F) := by have := B3.out.size; have := b4.size; unfold Hid; omega
  have FW : Hid (F < W5.heap.size) := R4.out.lt
  clear hF b4
  obtain ⟨K, hK⟩ : ∃ K : Nat, max 0 (min n 64) = (K : Int) := ⟨(max 0 (min n 64)).toNat, by omega⟩
  have hK64 : K ≤ 64 := by omega
  have HK : Hid _ := hK
  obtain ⟨M, hM⟩ : ∃ M : Int, (if (64 : Int) < n then (64 : Int) else n) = M := ⟨_, rfl⟩
  have hKi : (if (0 : Int) < M then M else (0 : Int)) = (K : Int) := by rw [← hM]; have := hK; (repeat' split) <;> omega
  clear hK
  have hmk := made_ur K hK64
  obtain ⟨A, hA⟩ : ∃ A, ans (sls n es s t (zer K)) (res n s t es (zer K) (fun c g => c + g)) = A := ⟨_, rfl⟩
  have HA : Hid _ := hA
  have CT : Hid (∀ (W : World) (Z : Nat), Below W5.heap.size W5 W → Ur W Z K (fun _ => 0) → Calls Try.prog 11 #[.agg #[.int .i64 n, .slice a0 es.length c0], .int .i64 s, .int .i64 t, .slice (some ⟨Z, 0, none⟩) K K] W fun e w' => ∃ ax lx cx c az lz cz er, e = .returned (.tuple #[.agg #[.slice ax lx cx, .int .i64 c, .slice az lz cz], .int .i64 er]) ∧ Rz w' W.heap.size A (.slice ax lx cx) c (.slice az lz cz) er ∧ Below W.heap.size W w') := fun W Z hb hu =>
    srun_rz n s t _ _ es (zer K) W A HA.out (HV.out.below (bthen B5.out hb)) hu.sl hlen (by simp [zer, lst_length]; omega)
  have UA : Hid (Ur (W5.alloc (.cells (Array.ofFn (n := K) fun _ => .int .i64 0) 3)).drew W5.heap.size K (fun _ => 0)) := ⟨heap_alloc_new W5 _⟩
  have UB : Hid (Ur ((W5.alloc (.cells #[.slice none 0 0, .int .i64 0, .slice none 0 0] 29)).alloc (.cells (Array.ofFn (n := K) fun _ => .int .i64 0) 3)).drew (W5.heap.size + 1) K (fun _ => 0)) := ⟨new_at _ _ (by simp)⟩
  have UC : Hid (Ur ((W5.alloc (.cells (Array.ofFn (n := K) fun _ => .int .i64 0) 3)).alloc (.cells #[.slice none 0 0, .int .i64 0, .slice none 0 0] 29)).drew W5.heap.size K (fun _ => 0)) := ⟨(Below.heap_alloc _ _ _ (by simp)).trans (heap_alloc_new W5 _)⟩
  have BA : Hid (Below W5.heap.size W5 (W5.alloc (.cells (Array.ofFn (n := K) fun _ => .int .i64 0) 3)).drew) := Below.drew (balloc (Below.refl _ _) _)
  have BB : Hid (Below W5.heap.size W5 ((W5.alloc (.cells #[.slice none 0 0, .int .i64 0, .slice none 0 0] 29)).alloc (.cells (Array.ofFn (n := K) fun _ => .int .i64 0) 3)).drew) := Below.drew (balloc (balloc (Below.refl _ _) _) _)
  have BC : Hid (Below W5.heap.size W5 ((W5.alloc (.cells (Array.ofFn (n := K) fun _ => .int .i64 0) 3)).alloc (.cells #[.slice none 0 0, .int .i64 0, .slice none 0 0] 29)).drew) := Below.drew (balloc (balloc (Below.refl _ _) _) _)
  have RB : Hid (Rb ((W5.alloc (.cells #[.slice none 0 0, .int .i64 0, .slice none 0 0] 29)).alloc (.cells (Array.ofFn (n := K) fun _ => .int .i64 0) 3)).drew W5.heap.size (.slice none 0 0) (.int .i64 0) (.slice none 0 0)) := ⟨(Below.heap_alloc _ _ _ (by simp)).trans (heap_alloc_new W5 _)⟩
  have RC : Hid (Rb ((W5.alloc (.cells (Array.ofFn (n := K) fun _ => .int .i64 0) 3)).alloc (.cells #[.slice none 0 0, .int .i64 0, .slice none 0 0] 29)).drew (W5.heap.size + 1) (.slice none 0 0) (.int .i64 0) (.slice none 0 0)) := ⟨new_at _ _ (by simp)⟩
  have x0 := kept_alloc (x := (.cells #[.slice none 0 0, .int .i64 0, .slice none 0 0] 29)) p0
  have x1 := kept_alloc (x := (.cells #[.slice none 0 0, .int .i64 0, .slice none 0 0] 29)) p1
  have m0 := kept_alloc (x := (.cells (Array.ofFn (n := K) fun _ => .int .i64 0) 3)) p0
  have m1 := kept_alloc (x := (.cells (Array.ofFn (n := K) fun _ => .int .i64 0) 3)) p1
  have xm0 := kept_alloc (x := (.cells (Array.ofFn (n := K) fun _ => .int .i64 0) 3)) x0
  have xm1 := kept_alloc (x := (.cells (Array.ofFn (n := K) fun _ => .int .i64 0) 3)) x1
  have mx0 := kept_alloc (x := (.cells #[.slice none 0 0, .int .i64 0, .slice none 0 0] 29)) m0
  have mx1 := kept_alloc (x := (.cells #[.slice none 0 0, .int .i64 0, .slice none 0 0] 29)) m1
  clear hA
  go_cut [13, 14] (fun fb er wx => ∃ FB ax lx cx c az lz cz e', er = .int .i64 e' ∧ fb = .pointer (some ⟨FB, 0, none⟩) ∧ Rb wx FB (.slice ax lx cx) (.int .i64 c) (.slice az lz cz) ∧ (∃ z0, Rz wx z0 A (.slice ax lx cx) c (.slice az lz cz) e') ∧ Below W5.heap.size W5 wx)
  case first =>
    go_region_law (first
      | (go_simp; go_at_call 11; refine (CT.out _ _ (by first | with_reducible exact BA.out | with_reducible exact BB.out | with_reducible exact BC.out) (by first | with_reducible exact UA.out | with_reducible exact UB.out | with_reducible exact UC.out)).mono ?_; rintro e w8 ⟨ax, lx, cx, c, az, lz, cz, er, rfl, hr, b8⟩; have HR : Hid (Rz w8 _ A (.slice ax lx cx) c (.slice az lz cz) er) := hr; have B8 : Hid (Below W5.heap.size W5 w8) := bthen (by first | with_reducible exact BA.out | with_reducible exact BB.out | with_reducible exact BC.out) b8; (first | (have R8 : Hid (Rb w8 (W5.heap.size + 1) (.slice none 0 0) (.int .i64 0) (.slice none 0 0)) := RC.out.below b8; have LT := RC.out.lt; obtain ⟨y0, y1, y2⟩ := R8.out.cell; obtain ⟨z0, z1, z2⟩ := R8.out.frozen) | (have R8 : Hid (Rb w8 W5.heap.size (.slice none 0 0) (.int .i64 0) (.slice none 0 0)) := RB.out.below b8; have LT := RB.out.lt; obtain ⟨y0, y1, y2⟩ := R8.out.cell; obtain ⟨z0, z1, z2⟩ := R8.out.frozen) | skip); clear hr b8; (try dsimp only))
      | fail)
    all_goals
      go_wp2_with fail
      go_meet
      first
        | exact ⟨_, _, _, _, _, _, _, _, _, rfl, rfl, R8.out.put _ _ _, ⟨_, HR.out.put LT _ _ _⟩, rb_below B8.out (by omega) _ _ _⟩
        | exact ⟨_, _, _, _, _, _, _, _, _, rfl, rfl, ⟨heap_alloc_new _ _⟩, ⟨_, HR.out.below (balloc (Below.refl _ _) _)⟩, balloc B8.out _⟩
  case rest =>
    obtain ⟨FB, ax, lx, cx, c, az, lz, cz, e', rfl, rfl, rb, ⟨z0, hr⟩, b8⟩ := hcut
    have B8 : Hid (Below w.heap.size w wc) := bthen B5.out b8
    have P8 : Hid _ := P4.out.below b8
    have R8 : Hid _ := R4.out.below b8
    have IZ8 : Hid _ := IZ4.out.below b8
    have RB8 : Hid _ := rb
    clear x0 x1 m0 m1 xm0 xm1 mx0 mx1 UA UB UC BA BB BC RB RC CT hmk b8 rb p0 p1 hM hKi P4 R4 IZ4
    obtain ⟨p0, p1⟩ := P8.out
    obtain ⟨k0, k1, k2⟩ := R8.out.cell
    obtain ⟨q0, q1, q2⟩ := RB8.out.cell
    obtain ⟨he', hc', hx', hz'⟩ := hr
    have HE : Hid _ := he'
    have IY8 : Hid _ := hz'.sl
    clear he' hc' hx' hz'
    by_cases h0 : C0 = 0
    · subst h0
      by_cases h1 : e' = 0
      · subst h1
        obtain ⟨N, S, T, D, s', o, rfl, rfl, rfl, hSN, hTN, hp, hnp, hag, hD, hans, hs, hw⟩ := ans_str w HV.out (by rw [HCC.out] : (ans (sls n es s t h) (res n s t es h (fun c g => c + g))).1 = 0)
        obtain ⟨rfl, rfl, rfl⟩ : C1 = D T ∧ CP = ints (way s' S T) ∧ CO = ints o := by
          have := HCC.out.symm.trans hans
          simp only [Prod.mk.injEq] at this
          exact ⟨this.2.1, this.2.2.1, this.2.2.2⟩
        have hn64 := hp.n64
        obtain rfl : K = N := by have := HK.out; omega
        have HP : Hid _ := hp
        have HNP : Hid _ := hnp
        have HD : Hid _ := hD
        have HS : Hid _ := hs
        have HW : Hid _ := hw
        have HZ := HA.out
        rw [sls_agr HNP.out hSN hTN (agr_zer HP.out hTN)] at HZ
        rcases ans_agr w HP.out hSN hTN (agr_zer HP.out hTN) HD.out rfl with ⟨-, h2⟩ | ⟨s2, o2, h2, h3, h4⟩
        · rw [h2] at HZ
          exact absurd HE.out (by rw [← HZ]; decide)
        rw [h2] at HZ
        subst HZ
        have HS2 : Hid _ := h3
        have HW2 : Hid _ := h4
        clear h4
        simp only at IY8
        have HAG : Hid _ := hag
        clear h2 h3 hp hnp hag hD hans hs hw HE HA
        obtain ⟨lo, hlo⟩ : ∃ lo, (ints o).length = lo := ⟨_, rfl⟩
        have HLO : Hid (o.length = lo) := by unfold Hid; rw [← hlo, ints_length]
        rw [hlo] at k2 R8 IZ8
        clear hlo
        go_wp2_with fail
        refine (dist_yes K S _ es wc (HV.out.below B8.out) HNP.out HP.out hSN).mono ?_
        rintro e w7 ⟨G, d, rfl, hG, ur, hd, b9⟩
        have B9 : Hid (Below w.heap.size w w7) := bthen B8.out b9
        have UR9 : Hid _ := ur
        have DD : Hid (∀ i, i < K → d i = D i) := fun i hi => hd.eq HP.out HD.out hi
        have P9 : Hid _ := P8.out.below b9
        have R9 : Hid _ := R8.out.below b9
        have RB9 : Hid _ := RB8.out.below b9
        have IZ9 : Hid _ := IZ8.out.below b9
        have IY9 : Hid _ := IY8.out.below b9
        clear b9 hG ur hd p0 p1 k0 k1 k2 q0 q1 q2 P8 R8 RB8 IZ8 IY8 B8 B5
        obtain ⟨k0, k1, k2⟩ := R9.out.cell
        go_wp2_with fail
        clear k0 k1 k2
        go_loopw [70] (fun z wr => ∃ i : Nat, z = .int .i64 i ∧ i ≤ lo ∧ Below w7.heap.size w7 wr) (fun z _ => lo - (intOf z).toNat)
        case atStart => exact ⟨0, rfl, Nat.zero_le _, Below.refl _ _⟩
        case round =>
          obtain ⟨i, rfl, hi, hb⟩ := hrel
          have HB : Hid (Below w7.heap.size w7 wr) := hb
          clear hb
          have hlo64 : lo ≤ 64 := by have := HW.out.len; have := HLO.out; omega
          by_cases hlt : i < lo
          · have hii : (i : Int) < (lo : Int) := by omega
            have hol : i < o.length := by rw [HLO.out]; exact hlt
            obtain ⟨bz, oz, cz', hze, hzc⟩ := (IZ9.out.below HB.out).some' (by rw [ints_length]; omega)
            simp only [Value.slice.injEq] at hze
            obtain ⟨rfl, -, rfl⟩ := hze
            have e0 := hzc i (by rw [ints_length]; omega)
            rw [ints_at hol] at e0
            clear hzc
            obtain ⟨x, hx⟩ : ∃ x, o[i] = x := ⟨_, rfl⟩
            rw [hx] at e0
            have hxo : x ∈ o := by rw [← hx]; exact List.getElem_mem hol
            have hxN : x < K := HW.out.inn x hxo
            have hxi : (x : Int) < (K : Int) := by omega
            have hTi : (T : Int) < (K : Int) := by omega
            obtain ⟨p0, p1⟩ := P9.out.below HB.out
            obtain ⟨_, _, q2⟩ := (RB9.out.below HB.out).cell
            obtain ⟨d0, -⟩ := (UR9.out.below HB.out).cell x hxN
            obtain ⟨d1, -⟩ := (UR9.out.below HB.out).cell T hTN
            rw [DD.out x hxN] at d0
            rw [DD.out T hTN] at d1
            have HO : Hid (o2.length ≤ 9223372036854775806) := by
              have := HW2.out.len; unfold Hid; omega
            have s1 : decide ((x : Int) < 0) = false := decide_eq_false (by omega)
            have s2 : decide ((K : Int) ≤ (x : Int)) = false := decide_eq_false (by omega)
            have CN : Hid (∀ q, Calls Try.prog 27 #[.slice az lz cz, .int .i64 ((x : Nat) : Int)] (wr.drewN q) fun e w' => e = .returned (.bool (decide (x ∈ o2))) ∧ w' = wr.drewN q) := fun q => contains_any _ o2 x _ ((IY9.out.below HB.out).drewN q) HO.out
            have hup : D x ≤ D T := by
              have h1 := HS.out.up x hxo
              have h2 := (HAG.out.lo x hxN).1
              unfold gf at h1
              omega
            have s3 : decide (D T < D x) = false := decide_eq_false (by omega)
            have hall := HS2.out.all x hxN (HS.out.lt x hxo)
            rw [show gf (zer K) x = 0 from zer_at hxN] at hall
            generalize D x = Dx at *
            generalize D T = DT at *
            by_cases hlx : Dx < DT
            · have s4 : decide (Dx < DT) = true := decide_eq_true hlx
              have s5 : decide (x ∈ o2) = true := decide_eq_true (hall (by omega))
              rw [s5] at CN
              clear hall hx hxo hup s5 hlx
              go_wp2_with fail
              go_quiet (first | (go_at_call 27; exact Calls.quiet_of_same (CN.out _)))
              go_wp2_with fail
              go_roundw
              case rel => exact ⟨i + 1, by go_num, by omega, bdrewN HB.out _⟩
              case measure => simp [intOf]; omega
            · have s4 : decide (Dx < DT) = false := decide_eq_false hlx
              clear hall hx hxo hup CN hlx
              go_wp2_with fail
              go_quiet (fail)
              go_wp2_with fail
              go_roundw
              case rel => exact ⟨i + 1, by go_num, by omega, bdrewN HB.out _⟩
              case measure => simp [intOf]; omega
          · go_wp2_with fail
            go_ret
            exact ⟨rfl, bthen B9.out HB.out⟩
      · have hz : (e' != 0) = true := by simp [h1]
        clear h1
        go_wp2_with fail
        go_ret
        exact ⟨rfl, B8.out⟩
    · have hz : (C0 != 0) = true := by simp [h0]
      clear h0
      go_wp2_with fail
      go_ret
      exact ⟨rfl, B8.out⟩
end Go.Proofs.Ytefikbjjdldomaa.SSpares
