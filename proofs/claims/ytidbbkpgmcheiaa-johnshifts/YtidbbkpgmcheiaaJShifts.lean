/-
  The law fellkeep.JohnShifts, walked.
-/
import Derived.Test.YtidbbkpgmcheiaaJC
import Derived.Test.YtidbbkpgmcheiaaJn
import Derived.Test.YtidbbkpgmcheiaaSN
import Derived.Test.YtidbbkpgmcheiaaTW
import Derived.Test.YtidbbkpgmcheiaaWB
namespace Go.Proofs.Ytidbbkpgmcheiaa.JShifts
open Go.RowKit
open Nm Wm Dm Bm Jm Jn
attribute [local go_sem ↓] Go.wp_at_zero Go.wp_at_succ

theorem flat_two (v u : Value) (w : World) (hv : SlE w v [(0, 1, 5)]) (hu : SlI w u [0, 5]) : Calls Try.prog 25 #[.agg #[.int .i64 2, v], u] w fun e w' => ∃ G, e = .returned (.tuple #[.agg #[.int .i64 2, .slice (some ⟨G, 0, none⟩) 1 1], .int .i64 0]) ∧ SlE w' (.slice (some ⟨G, 0, none⟩) 1 1) [(0, 1, 0)] ∧ Below w.heap.size w w' := by
  refine (flat_any 2 v u [(0, 1, 5)] [0, 5] w hv hu rnt_two rfl rfl).mono ?_
  rintro e w' ⟨⟨h⟩, b⟩
  rcases h with ⟨_, G, rfl, _, r⟩ | ⟨h, _⟩
  · refine ⟨G, rfl, r.sl (es := [(0, 1, 0)]) rfl (fun i hi => ?_), b⟩
    have h0 : i = 0 := by simp at hi; exact hi
    rw [h0]
    rfl
  · exact absurd rfl h

set_option maxRecDepth 100000 in
set_option maxHeartbeats 8000000 in
theorem walk_net (n : Int) (v u z : Value) (es : List E) (hs p : List Int) (w : World) (hv : SlE w v es) (hu : SlI w u hs) (hz : SlI w z p) (hlen : es.length ≤ 9223372036854775807) (hc : nck n es ≠ 0) :
    Calls Try.prog 11 #[.agg #[.int .i64 n, v], u, z] w fun e w' => e = .returned (.bool true) ∧ Below w.heap.size w w' := by
  obtain ⟨a0, c0, rfl⟩ := hv.val
  obtain ⟨a1, c1, rfl⟩ := hu.val
  obtain ⟨a2, c2, rfl⟩ := hz.val
  have HV : Hid _ := hv
  have HU : Hid _ := hu
  have HC : Hid _ := hc
  have hzz : (nck n es != 0) = true := by simp [hc]
  clear hv hu hc hz
  go_enter Try.func11, Try.ntmps11
  go_wp2_with fail
  have P0 : Hid _ := box2_new w (n : Int) (.slice a0 es.length c0) 24
  have B0 : Hid (Below w.heap.size w (w.alloc (.cells #[.int .i64 n, .slice a0 es.length c0] 24))) := balloc (Below.refl _ _) _
  generalize w.alloc (.cells #[.int .i64 n, .slice a0 es.length c0] 24) = W0 at *
  refine (two_any W0).mono ?_
  rintro e w1 ⟨X1, rfl, e1, b1⟩
  have E1 : Hid _ := e1.below (balloc (Below.refl _ _) (.cells #[.int .i64 0, .int .i64 5] 3))
  have P1 : Hid _ := (P0.out.below b1).below (balloc (Below.refl _ _) (.cells #[.int .i64 0, .int .i64 5] 3))
  have B1 : Hid (Below w.heap.size w (w1.alloc (.cells #[.int .i64 0, .int .i64 5] 3))) := balloc (bthen B0.out b1) _
  have L1 : Hid _ := lit_nums w1 [0, 5] #[.int .i64 0, .int .i64 5] 2 rfl rfl
  clear e1 b1 P0 B0
  go_wp2_with fail
  generalize w1.alloc (.cells #[.int .i64 0, .int .i64 5] 3) = W1 at *
  refine (flat_two _ _ W1 E1.out L1.out).mono ?_
  rintro e w2 ⟨G2, rfl, e2, b2⟩
  have E2 : Hid _ := e2
  have P2 : Hid _ := P1.out.below b2
  have B2 : Hid (Below w.heap.size w w2) := bthen B1.out b2
  clear e2 b2 P1 B1 E1 L1
  obtain ⟨n0, n1⟩ := (bn_new w2 (.int .i64 2) (.slice (some ⟨G2, 0, none⟩) 1 1)).cell
  go_wp2_with fail
  clear n0 n1
  have L3 : Hid _ := lit_edges (w2.alloc (.cells #[.int .i64 2, .slice (some ⟨G2, 0, none⟩) 1 1] 24)) [(0, 1, 0)] #[.int .i64 0, .int .i64 1, .int .i64 0] 1 rfl rfl
  have e3 : (w2.alloc (.cells #[.int .i64 2, .slice (some ⟨G2, 0, none⟩) 1 1] 24)).heap.size = w2.heap.size + 1 := by simp
  rw [e3] at L3
  have b3 : Below w2.heap.size w2 ((w2.alloc (.cells #[.int .i64 2, .slice (some ⟨G2, 0, none⟩) 1 1] 24)).alloc (.cells #[.int .i64 0, .int .i64 1, .int .i64 0] 44)) := balloc (balloc (Below.refl _ _) _) _
  generalize (w2.alloc (.cells #[.int .i64 2, .slice (some ⟨G2, 0, none⟩) 1 1] 24)).alloc (.cells #[.int .i64 0, .int .i64 1, .int .i64 0] 44) = W3 at *
  refine (sameNet_yes 2 _ _ [(0, 1, 0)] W3 (E2.out.below b3) L3.out (by simp)).mono ?_
  rintro e w4 ⟨rfl, b4⟩
  have P4 : Hid _ := (P2.out.below b3).below b4
  have B4 : Hid (Below w.heap.size w w4) := bthen (bthen B2.out b3) b4
  obtain ⟨p0, p1⟩ := P4.out
  clear b3 b4 P2 B2 E2 L3 e3
  go_wp2_with fail
  clear p0 p1
  refine (flat_net n _ _ es hs w4 (HV.out.below B4.out) (HU.out.below B4.out) hlen HC.out).mono ?_
  rintro e w5 ⟨rfl, b5⟩
  have B5 : Hid (Below w.heap.size w (w5.alloc (.cells #[.int .i64 0, .slice none 0 0] 24))) := balloc (bthen B4.out b5) _
  obtain ⟨n0, n1⟩ := (bn_new w5 (.int .i64 0) (.slice none 0 0)).cell
  clear b5
  generalize nck n es = k1 at *
  go_wp2_with fail
  go_ret
  exact ⟨rfl, B5.out⟩
set_option maxRecDepth 100000 in
set_option maxHeartbeats 8000000 in
theorem walk_arg (n : Int) (v u z : Value) (es : List E) (hs p : List Int) (w : World) (hv : SlE w v es) (hu : SlI w u hs) (hz : SlI w z p) (hlen : es.length ≤ 9223372036854775807) (hc : nck n es = 0) (hn64 : n ≤ 64) (hh : ¬ ((hs.length : Int) = n ∧ hgt hs = true)) :
    Calls Try.prog 11 #[.agg #[.int .i64 n, v], u, z] w fun e w' => e = .returned (.bool true) ∧ Below w.heap.size w w' := by
  obtain ⟨a0, c0, rfl⟩ := hv.val
  obtain ⟨a1, c1, rfl⟩ := hu.val
  obtain ⟨a2, c2, rfl⟩ := hz.val
  have HV : Hid _ := hv
  have HU : Hid _ := hu
  have HC : Hid _ := hc
  have HH : Hid (¬ ((hs.length : Int) = n ∧ hgt hs = true)) := hh
  clear hv hu hc hz hh
  go_enter Try.func11, Try.ntmps11
  go_wp2_with fail
  have P0 : Hid _ := box2_new w (n : Int) (.slice a0 es.length c0) 24
  have B0 : Hid (Below w.heap.size w (w.alloc (.cells #[.int .i64 n, .slice a0 es.length c0] 24))) := balloc (Below.refl _ _) _
  generalize w.alloc (.cells #[.int .i64 n, .slice a0 es.length c0] 24) = W0 at *
  refine (two_any W0).mono ?_
  rintro e w1 ⟨X1, rfl, e1, b1⟩
  have E1 : Hid _ := e1.below (balloc (Below.refl _ _) (.cells #[.int .i64 0, .int .i64 5] 3))
  have P1 : Hid _ := (P0.out.below b1).below (balloc (Below.refl _ _) (.cells #[.int .i64 0, .int .i64 5] 3))
  have B1 : Hid (Below w.heap.size w (w1.alloc (.cells #[.int .i64 0, .int .i64 5] 3))) := balloc (bthen B0.out b1) _
  have L1 : Hid _ := lit_nums w1 [0, 5] #[.int .i64 0, .int .i64 5] 2 rfl rfl
  clear e1 b1 P0 B0
  go_wp2_with fail
  generalize w1.alloc (.cells #[.int .i64 0, .int .i64 5] 3) = W1 at *
  refine (flat_two _ _ W1 E1.out L1.out).mono ?_
  rintro e w2 ⟨G2, rfl, e2, b2⟩
  have E2 : Hid _ := e2
  have P2 : Hid _ := P1.out.below b2
  have B2 : Hid (Below w.heap.size w w2) := bthen B1.out b2
  clear e2 b2 P1 B1 E1 L1
  obtain ⟨n0, n1⟩ := (bn_new w2 (.int .i64 2) (.slice (some ⟨G2, 0, none⟩) 1 1)).cell
  go_wp2_with fail
  clear n0 n1
  have L3 : Hid _ := lit_edges (w2.alloc (.cells #[.int .i64 2, .slice (some ⟨G2, 0, none⟩) 1 1] 24)) [(0, 1, 0)] #[.int .i64 0, .int .i64 1, .int .i64 0] 1 rfl rfl
  have e3 : (w2.alloc (.cells #[.int .i64 2, .slice (some ⟨G2, 0, none⟩) 1 1] 24)).heap.size = w2.heap.size + 1 := by simp
  rw [e3] at L3
  have b3 : Below w2.heap.size w2 ((w2.alloc (.cells #[.int .i64 2, .slice (some ⟨G2, 0, none⟩) 1 1] 24)).alloc (.cells #[.int .i64 0, .int .i64 1, .int .i64 0] 44)) := balloc (balloc (Below.refl _ _) _) _
  generalize (w2.alloc (.cells #[.int .i64 2, .slice (some ⟨G2, 0, none⟩) 1 1] 24)).alloc (.cells #[.int .i64 0, .int .i64 1, .int .i64 0] 44) = W3 at *
  refine (sameNet_yes 2 _ _ [(0, 1, 0)] W3 (E2.out.below b3) L3.out (by simp)).mono ?_
  rintro e w4 ⟨rfl, b4⟩
  have P4 : Hid _ := (P2.out.below b3).below b4
  have B4 : Hid (Below w.heap.size w w4) := bthen (bthen B2.out b3) b4
  obtain ⟨p0, p1⟩ := P4.out
  clear b3 b4 P2 B2 E2 L3 e3
  go_wp2_with fail
  clear p0 p1
  refine (flat_arg n _ _ es hs w4 (HV.out.below B4.out) (HU.out.below B4.out) hlen HC.out hn64 HH.out).mono ?_
  rintro e w5 ⟨rfl, b5⟩
  have B5 : Hid (Below w.heap.size w (w5.alloc (.cells #[.int .i64 0, .slice none 0 0] 24))) := balloc (bthen B4.out b5) _
  obtain ⟨n0, n1⟩ := (bn_new w5 (.int .i64 0) (.slice none 0 0)).cell
  clear b5
  go_wp2_with fail
  go_ret
  exact ⟨rfl, B5.out⟩
set_option maxRecDepth 100000 in
set_option maxHeartbeats 8000000 in
theorem walk_any (N : Nat) (v u z : Value) (es : List E) (hs p : List Int) (w : World) (hv : SlE w v es) (hu : SlI w u hs) (hz : SlI w z p) (hb : Rnt N es) (hn : hs.length = N) (hh : hgt hs = true) (hpl : p.length ≤ 9223372036854775807) :
    Calls Try.prog 11 #[.agg #[.int .i64 N, v], u, z] w fun e w' => e = .returned (.bool true) ∧ Below w.heap.size w w' := by
  obtain ⟨a0, c0, rfl⟩ := hv.val
  obtain ⟨a1, c1, rfl⟩ := hu.val
  obtain ⟨a2, c2, rfl⟩ := hz.val
  have HV : Hid _ := hv
  have HU : Hid _ := hu
  have HZ : Hid _ := hz
  have HB : Hid _ := hb
  have HN : Hid _ := hn
  have HH : Hid _ := hh
  have hlen : es.length ≤ 9223372036854775807 := by have := hb.len; omega
  clear hv hu hz hb hn hh
  go_enter Try.func11, Try.ntmps11
  go_wp2_with fail
  have P0 : Hid _ := box2_new w (N : Int) (.slice a0 es.length c0) 24
  have B0 : Hid (Below w.heap.size w (w.alloc (.cells #[.int .i64 N, .slice a0 es.length c0] 24))) := balloc (Below.refl _ _) _
  generalize w.alloc (.cells #[.int .i64 N, .slice a0 es.length c0] 24) = W0 at *
  refine (two_any W0).mono ?_
  rintro e w1 ⟨X1, rfl, e1, b1⟩
  have E1 : Hid _ := e1.below (balloc (Below.refl _ _) (.cells #[.int .i64 0, .int .i64 5] 3))
  have P1 : Hid _ := (P0.out.below b1).below (balloc (Below.refl _ _) (.cells #[.int .i64 0, .int .i64 5] 3))
  have B1 : Hid (Below w.heap.size w (w1.alloc (.cells #[.int .i64 0, .int .i64 5] 3))) := balloc (bthen B0.out b1) _
  have L1 : Hid _ := lit_nums w1 [0, 5] #[.int .i64 0, .int .i64 5] 2 rfl rfl
  clear e1 b1 P0 B0
  go_wp2_with fail
  generalize w1.alloc (.cells #[.int .i64 0, .int .i64 5] 3) = W1 at *
  refine (flat_two _ _ W1 E1.out L1.out).mono ?_
  rintro e w2 ⟨G2, rfl, e2, b2⟩
  have E2 : Hid _ := e2
  have P2 : Hid _ := P1.out.below b2
  have B2 : Hid (Below w.heap.size w w2) := bthen B1.out b2
  clear e2 b2 P1 B1 E1 L1
  obtain ⟨n0, n1⟩ := (bn_new w2 (.int .i64 2) (.slice (some ⟨G2, 0, none⟩) 1 1)).cell
  go_wp2_with fail
  clear n0 n1
  have L3 : Hid _ := lit_edges (w2.alloc (.cells #[.int .i64 2, .slice (some ⟨G2, 0, none⟩) 1 1] 24)) [(0, 1, 0)] #[.int .i64 0, .int .i64 1, .int .i64 0] 1 rfl rfl
  have e3 : (w2.alloc (.cells #[.int .i64 2, .slice (some ⟨G2, 0, none⟩) 1 1] 24)).heap.size = w2.heap.size + 1 := by simp
  rw [e3] at L3
  have b3 : Below w2.heap.size w2 ((w2.alloc (.cells #[.int .i64 2, .slice (some ⟨G2, 0, none⟩) 1 1] 24)).alloc (.cells #[.int .i64 0, .int .i64 1, .int .i64 0] 44)) := balloc (balloc (Below.refl _ _) _) _
  generalize (w2.alloc (.cells #[.int .i64 2, .slice (some ⟨G2, 0, none⟩) 1 1] 24)).alloc (.cells #[.int .i64 0, .int .i64 1, .int .i64 0] 44) = W3 at *
  refine (sameNet_yes 2 _ _ [(0, 1, 0)] W3 (E2.out.below b3) L3.out (by simp)).mono ?_
  rintro e w4 ⟨rfl, b4⟩
  have P4 : Hid _ := (P2.out.below b3).below b4
  have B4 : Hid (Below w.heap.size w w4) := bthen (bthen B2.out b3) b4
  obtain ⟨p0, p1⟩ := P4.out
  clear b3 b4 P2 B2 E2 L3 e3
  go_wp2_with fail
  clear p0 p1
  refine (flat_any N _ _ es hs w4 (HV.out.below B4.out) (HU.out.below B4.out) HB.out HN.out HH.out).mono ?_
  rintro e w5 ⟨⟨h5⟩, b5⟩
  rcases h5 with ⟨hf, G, rfl, _, r5⟩ | ⟨hf, rfl⟩
  · have HF : Hid _ := hf
    have FL : (es.map (lvl hs)).length = es.length := List.length_map _
    have F6 : Hid (SlE (w5.alloc (.cells #[.int .i64 N, .slice (some ⟨G, 0, none⟩) es.length es.length] 24)) (.slice (some ⟨G, 0, none⟩) es.length es.length) (es.map (lvl hs))) := (r5.sl FL (fun i hi => at3_map _ hi)).below (balloc (Below.refl _ _) _)
    have N6 : Hid _ := bn_new w5 (.int .i64 N) (.slice (some ⟨G, 0, none⟩) es.length es.length)
    have P6 : Hid _ := (P4.out.below b5).below (balloc (Below.refl _ _) (.cells #[.int .i64 N, .slice (some ⟨G, 0, none⟩) es.length es.length] 24))
    have B6 : Hid (Below w.heap.size w (w5.alloc (.cells #[.int .i64 N, .slice (some ⟨G, 0, none⟩) es.length es.length] 24))) := balloc (bthen B4.out b5) _
    obtain ⟨n0, n1⟩ := N6.out.cell
    obtain ⟨p0, p1⟩ := P6.out
    clear b5 r5 hf P4 B4 FL
    go_wp2_with fail
    clear n0 n1 p0 p1
    generalize w5.alloc (.cells #[.int .i64 N, .slice (some ⟨G, 0, none⟩) es.length es.length] 24) = W6 at *
    obtain ⟨F, hFF⟩ : ∃ F, w5.heap.size = F := ⟨_, rfl⟩
    rw [hFF] at N6 ⊢
    clear hFF
    refine (cost_any N _ _ es p W6 (HV.out.below B6.out) (HZ.out.below B6.out) hlen hpl).mono ?_
    rintro e w7 ⟨rfl, b7⟩
    have B7 : Hid (Below w.heap.size w w7) := bthen B6.out b7
    have N7 : Hid _ := N6.out.below b7
    have F7 : Hid _ := F6.out.below b7
    obtain ⟨n0, n1⟩ := N7.out.cell
    obtain ⟨cd, hcd⟩ : ∃ cd, wcode N es p = cd := ⟨_, rfl⟩
    have HCD : Hid _ := hcd
    rw [hcd]
    obtain ⟨c1', c2'⟩ := cd
    clear b7 hcd N6 F6 P6 B6
    go_wp2_with fail
    clear n0 n1
    refine (cost_any N _ _ (es.map (lvl hs)) p w7 F7.out (HZ.out.below B7.out) (by rw [List.length_map]; exact hlen) hpl).mono ?_
    rintro e w8 ⟨rfl, b8⟩
    have B8 : Hid (Below w.heap.size w w8) := bthen B7.out b8
    clear b8 F7 N7
    by_cases hk : c2' = 0
    · subst hk
      have HW : Hid _ := wcode_lvl_ok HB.out.gn HF.out p (by rw [HCD.out])
      rw [HCD.out] at HW
      simp only at HW
      rw [HW.out]
      obtain ⟨_, hp0, hp1, hpa, _⟩ := wcode_ok (n := N) (es := es) (p := p) (by rw [HCD.out])
      have hbd := wcode_bound N es p
      rw [HCD.out] at hbd
      obtain ⟨hbd0, hbd1⟩ := hbd
      simp only at hbd0 hbd1
      have hpl' : ∀ i, i < p.length → 0 ≤ p.getD i 0 ∧ p.getD i 0 < N := by
        intro i hi
        have := List.all_eq_true.1 hpa (p.getD i 0) (by rw [List.getD_eq_getElem?_getD, List.getElem?_eq_getElem hi]; exact List.getElem_mem _)
        exact of_decide_eq_true this
      obtain ⟨bz, oz, cz, hzq, hzc⟩ := (HZ.out.below B8.out).some' (by omega)
      simp only [Value.slice.injEq] at hzq
      obtain ⟨rfl, -, rfl⟩ := hzq
      have z0 := hzc 0 (by omega)
      have z1 := hzc (p.length - 1) (by omega)
      obtain ⟨bu, ou, cu, huq, huc⟩ := (HU.out.below B8.out).some' (by have := HN.out; have := HB.out.n1; omega)
      simp only [Value.slice.injEq] at huq
      obtain ⟨rfl, -, rfl⟩ := huq
      obtain ⟨q0, hq0⟩ := Int.eq_ofNat_of_zero_le (hpl' 0 (by omega)).1
      obtain ⟨q1, hq1⟩ := Int.eq_ofNat_of_zero_le (hpl' (p.length - 1) (by omega)).1
      have hq0N := (hpl' 0 (by omega)).2
      have hq1N := (hpl' (p.length - 1) (by omega)).2
      rw [hq0] at z0 hq0N ⊢
      rw [hq1] at z1 hq1N ⊢
      simp only [Int.toNat_natCast]
      have u0 := huc q0 (by have := HN.out; omega)
      have u1 := huc q1 (by have := HN.out; omega)
      have hg0 := hgt_at HH.out (i := q0) (by have := HN.out; omega)
      have hg1 := hgt_at HH.out (i := q1) (by have := HN.out; omega)
      obtain ⟨hg00, hg01⟩ := hg0
      obtain ⟨hg10, hg11⟩ := hg1
      have hq0i : (q0 : Int) < (hs.length : Int) := by have := HN.out; omega
      have hq1i : (q1 : Int) < (hs.length : Int) := by have := HN.out; omega
      clear huc hzc hpl' hq0 hq1 hpa HW HCD hq0N hq1N
      obtain ⟨m, hm⟩ : ∃ m, p.length = m + 1 := ⟨p.length - 1, by omega⟩
      rw [hm] at z1 hpl hp1 ⊢
      rw [show m + 1 - 1 = m by omega] at z1
      clear hm hp0
      generalize hs.getD q0 0 = d0 at *
      generalize hs.getD q1 0 = d1 at *
      generalize hs.length = hl at *
      have hsub : ((m + 1 : Nat) : Int) - 1 = (m : Int) := by omega
      have hmi : (m : Int) < ((m + 1 : Nat) : Int) := by omega
      have h0i : (0 : Int) < ((m + 1 : Nat) : Int) := by omega
      rw [Nat.add_zero] at z0
      go_wp2_with fail
      have heq : (c1' + d0 - d1 == c1' + d0 - d1) = true := by simp
      go_quiet (fail)
      go_wp2_with fail
      go_ret
      exact ⟨rfl, bdrewN B8.out _⟩
    · have HW : Hid _ := wcode_lvl_bad HB.out.gn HF.out p (by rw [HCD.out]; exact hk)
      rw [HCD.out] at HW
      have HW2 : Hid ((wcode N (es.map (lvl hs)) p).2 = c2') := HW.out
      rw [HW2.out]
      generalize (wcode N (es.map (lvl hs)) p).1 = c3 at *
      have hk2 : (c2' != 0) = true := by simp [hk]
      go_wp2_with fail
      go_ret
      exact ⟨by simp, B8.out⟩
  · have hzz : (fch (es.map (lvl hs)) != 0) = true := by simp [hf]
    clear hf
    generalize fch (es.map (lvl hs)) = k1 at *
    have B5 : Hid (Below w.heap.size w (w5.alloc (.cells #[.int .i64 0, .slice none 0 0] 24))) := balloc (bthen B4.out b5) _
    obtain ⟨n0, n1⟩ := (bn_new w5 (.int .i64 0) (.slice none 0 0)).cell
    clear b5
    go_wp2_with fail
    go_ret
    exact ⟨rfl, B5.out⟩
theorem walk (n : Int) (v u z : Value) (es : List E) (hs p : List Int) (w : World) (hv : SlE w v es) (hu : SlI w u hs) (hz : SlI w z p) (hlen : es.length ≤ 9223372036854775807) (hpl : p.length ≤ 17592186043904) :
    Calls Try.prog 11 #[.agg #[.int .i64 n, v], u, z] w fun e w' => e = .returned (.bool true) ∧ Below w.heap.size w w' := by
  by_cases hc : nck n es = 0
  · obtain ⟨hb, hn⟩ := bn_of hc
    by_cases hh : (hs.length : Int) = n ∧ hgt hs = true
    · rw [← hn]
      exact walk_any n.toNat v u z es hs p w hv hu hz hb (by omega) hh.2 (by omega)
    · exact walk_arg n v u z es hs p w hv hu hz hlen hc (nck_zero.1 hc).n64 hh
  · exact walk_net n v u z es hs p w hv hu hz hlen hc
end Go.Proofs.Ytidbbkpgmcheiaa.JShifts
