/-
  The law WeighBound.
-/
import Derived.Test.YtefikbjjdldomaaPW
import Derived.Test.YtefikbjjdldomaaPN
import Derived.Test.YtefikbjjdldomaaOpenN
import Derived.BigQuiet
import Derived.Deep.RegionHeld3
namespace Go.Proofs.Ytefikbjjdldomaa.WBound
open Go.RowKit Go.Deep
open _root_.Go.Proofs.Ytefikbjjdldomaa.Nm Wm Dm Sk

theorem wei_two (v u : Value) (w : World) (hv : SlE w v [(0, 1, 5)]) (hu : SlI w u [5, 0]) : Calls Try.prog 19 #[.agg #[.int .i64 2, v], .int .i64 0, .int .i64 1, u, .agg #[.int .i64 1, .int .i64 1]] w fun e w' => Fo w w' e 5 [0, 1] [0, 1] :=
  (wrun_yes 2 0 1 1 1 v u _ _ w hv hu (by simp) (by simp) (by omega) (by omega) pn_two (by kernel_rfl) (by kernel_rfl) rfl (rng_two (by decide) (by decide))).mono fun e w' h => bk9_of h (by kernel_rfl)
theorem one_any (w : World) : Calls Try.prog 28 #[] w fun e w' => e = .returned (.agg #[.int .i64 1, .int .i64 1]) ∧ Below w.heap.size w w' := by
  go_enter Try.func28, Try.ntmps28
  go_wp2_with fail
  have y0 := cell_new w #[.int .i64 1, .int .i64 1] 39 0 _ rfl
  have y1 := cell_new w #[.int .i64 1, .int .i64 1] 39 1 _ rfl
  exact bodyPost_ret (v := .agg #[.int .i64 1, .int .i64 1]) (by simp [results, Try.results28, go_sem, y0, y1]) rfl ⟨rfl, balloc (Below.refl _ _) _⟩
/-- The answer of a search with a weight. -/
def Wa (w w' : World) (N : Nat) (es : List E) (a t : Nat) (num den : Int) (D : Nat → Int) (e : Ending) : Prop :=
  (D t = 1099511627776 ∧ e = .returned (.tuple #[.agg #[.slice none 0 0, .int .i64 0, .slice none 0 0], .int .i64 5]) ∧ Below w.heap.size w w') ∨
  ∃ s o vp vo, e = .returned (.tuple #[.agg #[vp, .int .i64 (s.c t), vo], .int .i64 0]) ∧ Is w' w.heap.size vp (ints (way s a t)) ∧ Is w' w.heap.size vo (ints o) ∧ Below w.heap.size w w' ∧ Wgh N es a t den num D s o
theorem wrun_agr (N S T : Nat) (num den : Int) (v u : Value) (es : List E) (h : List Int) (w : World) (D : Nat → Int) (hv : SlE w v es) (hu : SlI w u h) (hlen : es.length ≤ 9223372036854775807) (hhl : h.length ≤ 9223372036854775807) (hS : S < N) (hT : T < N) (hp : Pn N es) (hc : sls N es S T h = 0) (hw : wtk num den = 0) (ha : Agr N T es h) (hD : IsD N es S D) :
    Calls Try.prog 19 #[.agg #[.int .i64 N, v], .int .i64 S, .int .i64 T, u, .agg #[.int .i64 num, .int .i64 den]] w fun e w' => Wa w w' N es S T num den D e :=
  (wrun_yes N S T num den v u es h w hv hu hlen hhl hS hT hp hc hw ha.len ha.lo).mono fun e w' hb => by
    obtain ⟨d, hd⟩ := lv_ex (h := gf h) w hp hS
    obtain ⟨z1, z2, z3⟩ := wtk_zero hw
    have hq := weigh_fin (A := den) (B := num) hp hd hD ha hS hT z2 z1
    rcases hb with ⟨h1, h2, h3⟩ | ⟨s, o, vp, vo, h1, h2, h3, h4, h5⟩
    · exact .inl ⟨hq.2 h1, h2, h3⟩
    · exact .inr ⟨s, o, vp, vo, h2, h3, h4, h5, hq.1 s o h1⟩
set_option maxRecDepth 100000 in
set_option maxHeartbeats 32000000 in
theorem walk (n s t num den : Int) (v u : Value) (es : List E) (h : List Int) (w : World) (hv : SlE w v es) (hu : SlI w u h) (hlen : es.length ≤ 9223372036854775807) (hhl : h.length ≤ 9223372036854775807) :
    Calls Try.prog 8 #[.agg #[.int .i64 n, v], .int .i64 s, .int .i64 t, u, .agg #[.int .i64 num, .int .i64 den]] w fun e w' => e = .returned (.bool true) ∧ Below w.heap.size w w' := by
  obtain ⟨a0, c0, rfl⟩ := hv.val
  obtain ⟨a1, c1, rfl⟩ := hu.val
  have HV : Hid _ := hv
  have HU : Hid _ := hu
  clear hv hu
  go_enter Try.func8, Try.ntmps8
  have P0 : Hid _ := (box2_new w n (.slice a0 es.length c0) 24).below (balloc (Below.refl _ _) (.cells #[.int .i64 num, .int .i64 den] 39))
  have V0 : Hid (((w.alloc (.cells #[.int .i64 n, .slice a0 es.length c0] 24)).alloc (.cells #[.int .i64 num, .int .i64 den] 39)).heap[w.heap.size + 1]? = some (.cells #[.int .i64 num, .int .i64 den] 39 (0, 0))) := new_at _ _ (by simp)
  have B0 : Hid (Below w.heap.size w ((w.alloc (.cells #[.int .i64 n, .slice a0 es.length c0] 24)).alloc (.cells #[.int .i64 num, .int .i64 den] 39))) := balloc (balloc (Below.refl _ _) _) _
  obtain ⟨RB, hRB⟩ : ∃ RB, w.heap.size + 1 = RB := ⟨_, rfl⟩
  rw [hRB] at V0
  go_wp2_with fail
  clear hRB
  generalize (w.alloc (.cells #[.int .i64 n, .slice a0 es.length c0] 24)).alloc (.cells #[.int .i64 num, .int .i64 den] 39) = W0 at *
  refine (two_any W0).mono ?_
  rintro e w1 ⟨X, rfl, e1, b1⟩
  have B1 : Hid (Below W0.heap.size W0 w1) := b1
  have E1 : Hid _ := e1.below (balloc (Below.refl _ _) (.cells #[.int .i64 5, .int .i64 0] 3))
  have L1 : Hid _ := lit_nums w1 [5, 0] #[.int .i64 5, .int .i64 0] 2 rfl rfl
  clear b1 e1
  go_wp2_with fail
  refine (one_any _).mono ?_
  rintro e w2 ⟨rfl, b2⟩
  have B2 : Hid (Below W0.heap.size W0 w2) := bthen (balloc B1.out _) b2
  have E2 : Hid _ := E1.out.below b2
  have L2 : Hid _ := L1.out.below b2
  clear b2 E1 L1 B1
  go_wp2_with fail
  refine (wei_two _ _ _ E2.out L2.out).mono ?_
  rintro e w3 ⟨vp, vo, rfl, ip, io, b3⟩
  have B3 : Hid (Below W0.heap.size W0 w3) := bthen B2.out b3
  obtain ⟨ap, cp, rfl⟩ := ip.sl.val
  obtain ⟨ao, co, rfl⟩ := io.sl.val
  clear b3 E2 L2 B2 ip io
  have R3 : Hid (Rb (w3.alloc (.cells #[.slice ap (ints [0, 1]).length cp, .int .i64 5, .slice ao (ints [0, 1]).length co] 29)) w3.heap.size (.slice ap (ints [0, 1]).length cp) (.int .i64 5) (.slice ao (ints [0, 1]).length co)) := ⟨heap_alloc_new w3 _⟩
  obtain ⟨k0, k1, k2⟩ := R3.out.cell
  have Z3 : Hid (Below W0.heap.size W0 (w3.alloc (.cells #[.slice ap (ints [0, 1]).length cp, .int .i64 5, .slice ao (ints [0, 1]).length co] 29))) := balloc B3.out _
  have P3 : Hid _ := P0.out.below Z3.out
  have V3 : Hid _ := (Z3.out.block _ (heap_lt' V0.out)).trans V0.out
  obtain ⟨p0, p1⟩ := P3.out
  have v0 : (w3.alloc (.cells #[.slice ap (ints [0, 1]).length cp, .int .i64 5, .slice ao (ints [0, 1]).length co] 29)).cell? ⟨RB, 0, none⟩ = some (.int .i64 num) := by simp [World.cell?, V3.out]
  have v1 : (w3.alloc (.cells #[.slice ap (ints [0, 1]).length cp, .int .i64 5, .slice ao (ints [0, 1]).length co] 29)).cell? ⟨RB, 1, none⟩ = some (.int .i64 den) := by simp [World.cell?, V3.out]
  go_wp2_with fail
  generalize w3.alloc (.cells #[.slice ap (ints [0, 1]).length cp, .int .i64 5, .slice ao (ints [0, 1]).length co] 29) = W3 at *
  clear R3 k0 k1 k2 p0 p1 v0 v1 P0 V0 B3
  have B3 : Hid (Below w.heap.size w W3) := bthen B0.out Z3.out
  clear Z3 B0
  by_cases hc : sls n es s t h = 0
  · by_cases hwk : wtk num den = 0
    · obtain ⟨N, S, T, rfl, rfl, rfl, hSN, hTN, hp, hg, hl⟩ := sls_zero hc
      have HAG : Hid _ := agr_of hl hg
      have HNP : Hid _ := (lk_zero hl).1
      obtain ⟨D, hD⟩ := d_ex _ es w HV.out hp hSN
      have HP : Hid _ := hp
      have HD : Hid _ := hD
      have HC : Hid _ := hc
      have HW : Hid _ := hwk
      have hn64 := hp.n64
      have hTi : (T : Int) < (N : Int) := by omega
      clear hg hl hD hp hc hwk
      refine (wrun_agr N S T num den _ _ es h W3 D (HV.out.below B3.out) (HU.out.below B3.out) hlen hhl hSN hTN HP.out HC.out HW.out HAG.out HD.out).mono ?_
      rintro e w4 (⟨hf, rfl, b4⟩ | ⟨s', o, vp, vo, rfl, ip, io, b4, hw⟩)
      · have HF : Hid _ := hf
        have B4 : Hid (Below w.heap.size w (w4.alloc (.cells #[.slice none 0 0, .int .i64 0, .slice none 0 0] 29))) := balloc (bthen B3.out b4) _
        have P4 : Hid _ := P3.out.below (bthen b4 (balloc (Below.refl _ _) (.cells #[.slice none 0 0, .int .i64 0, .slice none 0 0] 29)))
        have V4 : Hid _ := ((bthen b4 (balloc (Below.refl _ _) (.cells #[.slice none 0 0, .int .i64 0, .slice none 0 0] 29))).block _ (heap_lt' V3.out)).trans V3.out
        clear b4 hf
        obtain ⟨p0, p1⟩ := P4.out
        go_wp2_with fail
        generalize w4.alloc (.cells #[.slice none 0 0, .int .i64 0, .slice none 0 0] 29) = W5 at *
        refine (slook_any N S T _ _ es h W5 (HV.out.below B4.out) (HU.out.below B4.out) hlen hhl).mono ?_
        rintro e w6 ⟨rfl, b6⟩
        have B6 : Hid (Below w.heap.size w w6) := bthen B4.out b6
        have V6 : Hid _ := (b6.block _ (heap_lt' V4.out)).trans V4.out
        have P6 : Hid _ := P4.out.below b6
        clear b6 p0 p1
        have v0 : w6.cell? ⟨RB, 0, none⟩ = some (.int .i64 num) := by simp [World.cell?, V6.out]
        have v1 : w6.cell? ⟨RB, 1, none⟩ = some (.int .i64 den) := by simp [World.cell?, V6.out]
        rw [HC.out]
        go_wp2_with fail
        refine (weight_any num den w6).mono ?_
        rintro e w7 ⟨rfl, b7⟩
        rw [HW.out]
        have B7 : Hid (Below w.heap.size w w7) := bthen B6.out b7
        have P7 : Hid _ := P6.out.below b7
        clear b7
        obtain ⟨p0, p1⟩ := P7.out
        go_wp2_with fail
        refine (dist_yes N S _ es w7 (HV.out.below B7.out) HNP.out HP.out hSN).mono ?_
        rintro e w8 ⟨G, d, rfl, hG, ur, hd, b8⟩
        have B8 : Hid (Below w.heap.size w w8) := bthen B7.out b8
        obtain ⟨d0, -⟩ := ur.cell T hTN
        rw [hd.eq HP.out HD.out hTN, HF.out] at d0
        clear b8 hG ur hd p0 p1
        go_wp2_with fail
        go_ret
        exact ⟨rfl, B8.out⟩
      · have HWG : Hid _ := hw
        have HWC : Hid _ := wgh_walk HP.out HNP.out hSN hTN hw
        obtain ⟨ax, cx, rfl⟩ := ip.sl.val
        obtain ⟨az, cz, rfl⟩ := io.sl.val
        obtain ⟨lx, hlx⟩ : ∃ lx, (ints (way s' S T)).length = lx := ⟨_, rfl⟩
        obtain ⟨lo, hlo⟩ : ∃ lo, (ints o).length = lo := ⟨_, rfl⟩
        have IX : Hid (SlI w4 (.slice ax lx cx) (ints (way s' S T))) := by rw [← hlx]; exact ip.sl
        have IZ : Hid (SlI w4 (.slice az lo cz) (ints o)) := by rw [← hlo]; exact io.sl
        have HLO : Hid (o.length = lo) := by unfold Hid; rw [← hlo, ints_length]
        rw [hlx, hlo]
        obtain ⟨cT, hcT⟩ : ∃ cT, s'.c T = cT := ⟨_, rfl⟩
        have HCT : Hid (s'.c T = cT) := hcT
        rw [hcT]
        have B4 : Hid (Below w.heap.size w (w4.alloc (.cells #[.slice ax lx cx, .int .i64 cT, .slice az lo cz] 29))) := balloc (bthen B3.out b4) _
        have P4 : Hid _ := P3.out.below (bthen b4 (balloc (Below.refl _ _) (.cells #[.slice ax lx cx, .int .i64 cT, .slice az lo cz] 29)))
        have V4 : Hid _ := ((bthen b4 (balloc (Below.refl _ _) (.cells #[.slice ax lx cx, .int .i64 cT, .slice az lo cz] 29))).block _ (heap_lt' V3.out)).trans V3.out
        have R4 : Hid (Rb (w4.alloc (.cells #[.slice ax lx cx, .int .i64 cT, .slice az lo cz] 29)) w4.heap.size (.slice ax lx cx) (.int .i64 cT) (.slice az lo cz)) := ⟨heap_alloc_new w4 _⟩
        have IX4 : Hid _ := IX.out.below (balloc (Below.refl _ _) (.cells #[.slice ax lx cx, .int .i64 cT, .slice az lo cz] 29))
        have IZ4 : Hid _ := IZ.out.below (balloc (Below.refl _ _) (.cells #[.slice ax lx cx, .int .i64 cT, .slice az lo cz] 29))
        clear b4 hw hlx hlo hcT ip io IX IZ
        obtain ⟨p0, p1⟩ := P4.out
        obtain ⟨F, hF⟩ : ∃ F, w4.heap.size = F := ⟨_, rfl⟩
        go_wp2_with fail
        generalize w4.alloc (.cells #[.slice ax lx cx, .int .i64 cT, .slice az lo cz] 29) = W5 at *
        rw [hF] at R4
        clear hF
        refine (slook_any N S T _ _ es h W5 (HV.out.below B4.out) (HU.out.below B4.out) hlen hhl).mono ?_
        rintro e w6 ⟨rfl, b6⟩
        have B6 : Hid (Below w.heap.size w w6) := bthen B4.out b6
        have V6 : Hid _ := (b6.block _ (heap_lt' V4.out)).trans V4.out
        have P6 : Hid _ := P4.out.below b6
        have R6 : Hid _ := R4.out.below b6
        have IX6 : Hid _ := IX4.out.below b6
        have IZ6 : Hid _ := IZ4.out.below b6
        clear b6 p0 p1 IX4 IZ4 R4
        have v0 : w6.cell? ⟨RB, 0, none⟩ = some (.int .i64 num) := by simp [World.cell?, V6.out]
        have v1 : w6.cell? ⟨RB, 1, none⟩ = some (.int .i64 den) := by simp [World.cell?, V6.out]
        rw [HC.out]
        go_wp2_with fail
        refine (weight_any num den w6).mono ?_
        rintro e w7 ⟨rfl, b7⟩
        rw [HW.out]
        have B7 : Hid (Below w.heap.size w w7) := bthen B6.out b7
        have P7 : Hid _ := P6.out.below b7
        have V7 : Hid _ := (b7.block _ (heap_lt' V6.out)).trans V6.out
        have R7 : Hid _ := R6.out.below b7
        have IX7 : Hid _ := IX6.out.below b7
        have IZ7 : Hid _ := IZ6.out.below b7
        clear b7 v0 v1 IX6 IZ6 R6 V6 P6
        obtain ⟨p0, p1⟩ := P7.out
        go_wp2_with fail
        refine (dist_yes N S _ es w7 (HV.out.below B7.out) HNP.out HP.out hSN).mono ?_
        rintro e w8 ⟨G, d, rfl, hG, ur, hd, b8⟩
        have B8 : Hid (Below w.heap.size w w8) := bthen B7.out b8
        obtain ⟨d0, -⟩ := ur.cell T hTN
        rw [hd.eq HP.out HD.out hTN] at d0
        have P8 : Hid _ := P7.out.below b8
        have V8 : Hid _ := (b8.block _ (heap_lt' V7.out)).trans V7.out
        have R8 : Hid _ := R7.out.below b8
        have IX8 : Hid _ := IX7.out.below b8
        have IZ8 : Hid _ := IZ7.out.below b8
        clear b8 hG ur hd p0 p1 P7 V7 R7 IX7 IZ7
        obtain ⟨p0, p1⟩ := P8.out
        obtain ⟨k0, k1, k2⟩ := R8.out.cell
        have v0 : w8.cell? ⟨RB, 0, none⟩ = some (.int .i64 num) := by simp [World.cell?, V8.out]
        have v1 : w8.cell? ⟨RB, 1, none⟩ = some (.int .i64 den) := by simp [World.cell?, V8.out]
        have WK : Hid (∀ W, Below w8.heap.size w8 W → Calls Try.prog 23 #[.agg #[.int .i64 N, .slice a0 es.length c0], .agg #[.slice ax lx cx, .int .i64 cT], .int .i64 S, .int .i64 T] W fun e w' => e = .returned (.bool true) ∧ Below W.heap.size W w') := fun W hb => by
          obtain ⟨q1, q2, q3, q4, q5⟩ := HWC.out
          rw [HCT.out] at q1
          exact walks_any N S T cT _ _ es _ W (HV.out.below (bthen B8.out hb)) (IX8.out.below hb) hlen q1 q2 q3 q4 q5
        have CO : Hid (∀ W, Below w8.heap.size w8 W → Calls Try.prog 24 #[.slice az lo cz] W fun e w' => e = .returned (.bool true) ∧ w' = W) := fun W hb => once_any (.slice az lo cz) o W (IZ8.out.below hb) (by have := HWG.out.len; omega) HWG.out.nd
        have TM : Hid (∀ W, Calls Try.prog 29 #[.int .i64 cT, .agg #[.int .i64 num, .int .i64 den], .int .i64 (D T)] W fun e w' => e = .returned (.bool true) ∧ Below W.heap.size W w') := fun W => by
          obtain ⟨z1, z2, z3⟩ := wtk_zero HW.out
          obtain ⟨q, -, -, hdn⟩ := HWG.out.dn
          have c0 := hdn.lo T hTN
          have c1 := HWG.out.lt
          have l0 := HD.out.lo T hTN
          have l1 := HWG.out.dlt
          have ok := HWG.out.ok
          have hfar : far = 1099511627776 := rfl
          rw [HCT.out] at c0 c1 ok
          refine times_any cT num den (D T) W c0 (by omega) (by omega) (by omega) (by omega) (by omega) l0 (by omega) ?_
          rw [Int.mul_comm cT den]; exact ok
        have HLE : (lo : Int) ≤ (N : Int) := by have := HWG.out.len; have := HLO.out; omega
        obtain ⟨DT, hDT⟩ : ∃ DT, D T = DT := ⟨_, rfl⟩
        rw [hDT] at d0 TM
        clear hDT
        have ALL : Hid (∀ W, Below w8.heap.size w8 W → (W.cell? ⟨w.heap.size, 0, none⟩ = some (.int .i64 N) ∧ W.cell? ⟨w.heap.size, 1, none⟩ = some (.slice a0 es.length c0) ∧ W.cell? ⟨F, 0, none⟩ = some (.slice ax lx cx) ∧ W.cell? ⟨F, 1, none⟩ = some (.int .i64 cT) ∧ W.cell? ⟨F, 2, none⟩ = some (.slice az lo cz) ∧ W.cell? ⟨G, T, none⟩ = some (.int .i64 DT) ∧ W.cell? ⟨RB, 0, none⟩ = some (.int .i64 num) ∧ W.cell? ⟨RB, 1, none⟩ = some (.int .i64 den))) := fun W hb => ⟨kept hb p0, kept hb p1, kept hb k0, kept hb k1, kept hb k2, kept hb d0, kept hb v0, kept hb v1⟩
        go_wp2_with fail
        go_region_held3 (fun w' => (w'.cell? ⟨w.heap.size, 0, none⟩ = some (.int .i64 N) ∧ w'.cell? ⟨w.heap.size, 1, none⟩ = some (.slice a0 es.length c0) ∧ w'.cell? ⟨F, 0, none⟩ = some (.slice ax lx cx) ∧ w'.cell? ⟨F, 1, none⟩ = some (.int .i64 cT) ∧ w'.cell? ⟨F, 2, none⟩ = some (.slice az lo cz) ∧ w'.cell? ⟨G, T, none⟩ = some (.int .i64 DT) ∧ w'.cell? ⟨RB, 0, none⟩ = some (.int .i64 num) ∧ w'.cell? ⟨RB, 1, none⟩ = some (.int .i64 den))) (first | go_keep | exact KEEP.out)
          (first
           | (go_at_call 23; refine (WK.out _ (by exact Below.drew (Below.refl _ _))).mono ?_; rintro e w9 ⟨rfl, b9⟩; have BB : Hid (Below w8.heap.size w8 w9) := (by exact bthen (Below.drew (Below.refl _ _)) b9); clear b9; have KEEP : Hid ((w9.cell? ⟨w.heap.size, 0, none⟩ = some (.int .i64 N) ∧ w9.cell? ⟨w.heap.size, 1, none⟩ = some (.slice a0 es.length c0) ∧ w9.cell? ⟨F, 0, none⟩ = some (.slice ax lx cx) ∧ w9.cell? ⟨F, 1, none⟩ = some (.int .i64 cT) ∧ w9.cell? ⟨F, 2, none⟩ = some (.slice az lo cz) ∧ w9.cell? ⟨G, T, none⟩ = some (.int .i64 DT) ∧ w9.cell? ⟨RB, 0, none⟩ = some (.int .i64 num) ∧ w9.cell? ⟨RB, 1, none⟩ = some (.int .i64 den))) := ALL.out _ BB.out)
           | (go_at_call 29; refine (TM.out _).mono ?_; rintro e w10 ⟨rfl, b10⟩; have BB : Hid (Below w8.heap.size w8 w10) := (by exact bthen BB.out b10); clear b10; have KEEP : Hid ((w10.cell? ⟨w.heap.size, 0, none⟩ = some (.int .i64 N) ∧ w10.cell? ⟨w.heap.size, 1, none⟩ = some (.slice a0 es.length c0) ∧ w10.cell? ⟨F, 0, none⟩ = some (.slice ax lx cx) ∧ w10.cell? ⟨F, 1, none⟩ = some (.int .i64 cT) ∧ w10.cell? ⟨F, 2, none⟩ = some (.slice az lo cz) ∧ w10.cell? ⟨G, T, none⟩ = some (.int .i64 DT) ∧ w10.cell? ⟨RB, 0, none⟩ = some (.int .i64 num) ∧ w10.cell? ⟨RB, 1, none⟩ = some (.int .i64 den))) := ALL.out _ BB.out)
           | (go_at_call 24; refine (CO.out _ (by exact BB.out)).mono ?_; rintro e w11 ⟨rfl, rfl⟩)
           | fail)
        go_wp2_with fail
        go_ret
        exact ⟨rfl, bthen B8.out BB.out⟩
    · have HC : Hid _ := hc
      have HW : Hid _ := hwk
      have hz : (wtk num den != 0) = true := by simp [hwk]
      clear hc hwk
      refine (wrun_weight n s t num den _ _ es h W3 (HV.out.below B3.out) (HU.out.below B3.out) hlen hhl HC.out HW.out).mono ?_
      rintro e w4 ⟨rfl, b4⟩
      have B4 : Hid (Below w.heap.size w (w4.alloc (.cells #[.slice none 0 0, .int .i64 0, .slice none 0 0] 29))) := balloc (bthen B3.out b4) _
      have P4 : Hid _ := P3.out.below (bthen b4 (balloc (Below.refl _ _) (.cells #[.slice none 0 0, .int .i64 0, .slice none 0 0] 29)))
      have V4 : Hid _ := ((bthen b4 (balloc (Below.refl _ _) (.cells #[.slice none 0 0, .int .i64 0, .slice none 0 0] 29))).block _ (heap_lt' V3.out)).trans V3.out
      have R4 : Hid (Rb (w4.alloc (.cells #[.slice none 0 0, .int .i64 0, .slice none 0 0] 29)) w4.heap.size (.slice none 0 0) (.int .i64 0) (.slice none 0 0)) := ⟨heap_alloc_new w4 _⟩
      clear b4
      obtain ⟨p0, p1⟩ := P4.out
      obtain ⟨F, hF⟩ : ∃ F, w4.heap.size = F := ⟨_, rfl⟩
      go_wp2_with fail
      rw [hF] at R4
      clear hF
      generalize w4.alloc (.cells #[.slice none 0 0, .int .i64 0, .slice none 0 0] 29) = W5 at *
      refine (slook_any n s t _ _ es h W5 (HV.out.below B4.out) (HU.out.below B4.out) hlen hhl).mono ?_
      rintro e w6 ⟨rfl, b6⟩
      have R6 : Hid _ := R4.out.below b6
      have B6 : Hid (Below w.heap.size w w6) := bthen B4.out b6
      have V6 : Hid _ := (b6.block _ (heap_lt' V4.out)).trans V4.out
      clear b6 p0 p1
      obtain ⟨k0, k1, k2⟩ := R6.out.cell
      have v0 : w6.cell? ⟨RB, 0, none⟩ = some (.int .i64 num) := by simp [World.cell?, V6.out]
      have v1 : w6.cell? ⟨RB, 1, none⟩ = some (.int .i64 den) := by simp [World.cell?, V6.out]
      rw [HC.out]
      go_wp2_with fail
      refine (weight_any num den w6).mono ?_
      rintro e w7 ⟨rfl, b7⟩
      have B7 : Hid (Below w.heap.size w w7) := bthen B6.out b7
      obtain ⟨k0, k1, k2⟩ := (R6.out.below b7).cell
      clear b7
      go_wp2_with fail
      go_ret
      exact ⟨rfl, B7.out⟩
  · have HC : Hid _ := hc
    have hz : (sls n es s t h != 0) = true := by simp [hc]
    clear hc
    refine (wrun_look n s t num den _ _ es h W3 (HV.out.below B3.out) (HU.out.below B3.out) hlen hhl HC.out).mono ?_
    rintro e w4 ⟨rfl, b4⟩
    have B4 : Hid (Below w.heap.size w (w4.alloc (.cells #[.slice none 0 0, .int .i64 0, .slice none 0 0] 29))) := balloc (bthen B3.out b4) _
    have P4 : Hid _ := P3.out.below (bthen b4 (balloc (Below.refl _ _) (.cells #[.slice none 0 0, .int .i64 0, .slice none 0 0] 29)))
    have V4 : Hid _ := ((bthen b4 (balloc (Below.refl _ _) (.cells #[.slice none 0 0, .int .i64 0, .slice none 0 0] 29))).block _ (heap_lt' V3.out)).trans V3.out
    have R4 : Hid (Rb (w4.alloc (.cells #[.slice none 0 0, .int .i64 0, .slice none 0 0] 29)) w4.heap.size (.slice none 0 0) (.int .i64 0) (.slice none 0 0)) := ⟨heap_alloc_new w4 _⟩
    clear b4
    obtain ⟨p0, p1⟩ := P4.out
    obtain ⟨F, hF⟩ : ∃ F, w4.heap.size = F := ⟨_, rfl⟩
    go_wp2_with fail
    rw [hF] at R4
    clear hF
    generalize w4.alloc (.cells #[.slice none 0 0, .int .i64 0, .slice none 0 0] 29) = W5 at *
    refine (slook_any n s t _ _ es h W5 (HV.out.below B4.out) (HU.out.below B4.out) hlen hhl).mono ?_
    rintro e w6 ⟨rfl, b6⟩
    have R6 : Hid _ := R4.out.below b6
    have B6 : Hid (Below w.heap.size w w6) := bthen B4.out b6
    have V6 : Hid _ := (b6.block _ (heap_lt' V4.out)).trans V4.out
    clear b6 p0 p1
    obtain ⟨k0, k1, k2⟩ := R6.out.cell
    have v0 : w6.cell? ⟨RB, 0, none⟩ = some (.int .i64 num) := by simp [World.cell?, V6.out]
    have v1 : w6.cell? ⟨RB, 1, none⟩ = some (.int .i64 den) := by simp [World.cell?, V6.out]
    go_wp2_with fail
    go_ret
    exact ⟨rfl, B6.out⟩
end Go.Proofs.Ytefikbjjdldomaa.WBound
