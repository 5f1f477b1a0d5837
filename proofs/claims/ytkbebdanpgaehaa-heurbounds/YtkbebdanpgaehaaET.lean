/-
  Contract: heur.Bound.
-/
import Derived.Test.YtkbebdanpgaehaaER
import Derived.Test.YtkbebdanpgaehaaEH
namespace Go.Proofs.Ytkbebdanpgaehaa
open Go.RowKit
open Nm Wm Dm
attribute [local go_sem ↓] Go.wp_at_zero Go.wp_at_succ

set_option maxRecDepth 100000 in
set_option maxHeartbeats 8000000 in
theorem bound_n (n v t : Int) (v1 v2 : Value) (F T : List (List Int)) (w : World) (h1 : SlT w v1 F) (h2 : SlT w v2 T) (hc : n < 1 ∨ 64 < n) :
    Calls Try.prog 15 #[.agg #[v1, v2], .int .i64 n, .int .i64 v, .int .i64 t] w fun e w' => e = .returned (.tuple #[.int .i64 0, .int .i64 1]) ∧ Below w.heap.size w w' := by
  obtain ⟨a1, c1, rfl⟩ := h1.val
  obtain ⟨a2, c2, rfl⟩ := h2.val
  have H1 : Hid _ := h1
  have H2 : Hid _ := h2
  clear h1 h2
  have B0 : Hid (Below w.heap.size w (w.alloc (.cells #[.slice a1 F.length c1, .slice a2 T.length c2] 31))) := balloc (Below.refl _ _) _
  have T0 : Hid _ := bt_new w (.slice a1 F.length c1) (.slice a2 T.length c2)
  clear T0 H1 H2
  by_cases h1 : n < 1
  · clear hc
    go_enter Try.func15, Try.ntmps15
    go_wp2_with fail
    go_ret2
    exact ⟨rfl, B0.out⟩
  · have h2 : 64 < n := by omega
    clear hc
    go_enter Try.func15, Try.ntmps15
    go_wp2_with fail
    go_ret2
    exact ⟨rfl, B0.out⟩
set_option maxRecDepth 100000 in
set_option maxHeartbeats 8000000 in
theorem bound_v (n v t : Int) (v1 v2 : Value) (F T : List (List Int)) (w : World) (h1 : SlT w v1 F) (h2 : SlT w v2 T) (hn1 : ¬ n < 1) (hn2 : ¬ 64 < n) (hc : plc n v = false) :
    Calls Try.prog 15 #[.agg #[v1, v2], .int .i64 n, .int .i64 v, .int .i64 t] w fun e w' => e = .returned (.tuple #[.int .i64 0, .int .i64 1]) ∧ Below w.heap.size w w' := by
  obtain ⟨a1, c1, rfl⟩ := h1.val
  obtain ⟨a2, c2, rfl⟩ := h2.val
  have H1 : Hid _ := h1
  have H2 : Hid _ := h2
  clear h1 h2
  have B0 : Hid (Below w.heap.size w (w.alloc (.cells #[.slice a1 F.length c1, .slice a2 T.length c2] 31))) := balloc (Below.refl _ _) _
  have T0 : Hid _ := bt_new w (.slice a1 F.length c1) (.slice a2 T.length c2)
  have HC : Hid _ := hc
  clear T0 H1 H2 hc
  go_enter Try.func15, Try.ntmps15
  go_wp2_with fail
  generalize w.alloc (.cells #[.slice a1 F.length c1, .slice a2 T.length c2] 31) = W0 at *
  refine (isbelow_any v n W0).mono ?_
  rintro e w1 ⟨rfl, rfl⟩
  rw [HC.out]
  go_wp2_with fail
  go_ret2
  exact ⟨rfl, B0.out⟩
set_option maxRecDepth 100000 in
set_option maxHeartbeats 8000000 in
theorem bound_t (n v t : Int) (v1 v2 : Value) (F T : List (List Int)) (w : World) (h1 : SlT w v1 F) (h2 : SlT w v2 T) (hn1 : ¬ n < 1) (hn2 : ¬ 64 < n) (hv : plc n v = true) (hc : plc n t = false) :
    Calls Try.prog 15 #[.agg #[v1, v2], .int .i64 n, .int .i64 v, .int .i64 t] w fun e w' => e = .returned (.tuple #[.int .i64 0, .int .i64 1]) ∧ Below w.heap.size w w' := by
  obtain ⟨a1, c1, rfl⟩ := h1.val
  obtain ⟨a2, c2, rfl⟩ := h2.val
  have H1 : Hid _ := h1
  have H2 : Hid _ := h2
  clear h1 h2
  have B0 : Hid (Below w.heap.size w (w.alloc (.cells #[.slice a1 F.length c1, .slice a2 T.length c2] 31))) := balloc (Below.refl _ _) _
  have T0 : Hid _ := bt_new w (.slice a1 F.length c1) (.slice a2 T.length c2)
  have HC : Hid _ := hc
  have HV : Hid _ := hv
  clear T0 H1 H2 hc hv
  go_enter Try.func15, Try.ntmps15
  go_wp2_with fail
  generalize w.alloc (.cells #[.slice a1 F.length c1, .slice a2 T.length c2] 31) = W0 at *
  refine (isbelow_any v n W0).mono ?_
  rintro e w1 ⟨rfl, rfl⟩
  rw [HV.out]
  go_wp2_with fail
  refine (isbelow_any t n w1).mono ?_
  rintro e w1 ⟨rfl, rfl⟩
  rw [HC.out]
  go_wp2_with fail
  go_ret2
  exact ⟨rfl, B0.out⟩
set_option maxRecDepth 100000 in
set_option maxHeartbeats 8000000 in
theorem bound_form (n v t : Nat) (v1 v2 : Value) (F T : List (List Int)) (w : World) (h1 : SlT w v1 F) (h2 : SlT w v2 T) (r1 : Rl F) (r2 : Rl T) (hn1 : 1 ≤ n) (hn2 : n ≤ 64) (hv : v < n) (ht : t < n) (hc : ist n F T = false) :
    Calls Try.prog 15 #[.agg #[v1, v2], .int .i64 n, .int .i64 v, .int .i64 t] w fun e w' => e = .returned (.tuple #[.int .i64 0, .int .i64 3]) ∧ Below w.heap.size w w' := by
  obtain ⟨a1, c1, rfl⟩ := h1.val
  obtain ⟨a2, c2, rfl⟩ := h2.val
  have H1 : Hid _ := h1
  have H2 : Hid _ := h2
  clear h1 h2
  have B0 : Hid (Below w.heap.size w (w.alloc (.cells #[.slice a1 F.length c1, .slice a2 T.length c2] 31))) := balloc (Below.refl _ _) _
  have T0 : Hid _ := bt_new w (.slice a1 F.length c1) (.slice a2 T.length c2)
  have HV : Hid (plc (n : Int) (v : Int) = true) := plc_yes (by omega) (by omega)
  have HT : Hid (plc (n : Int) (t : Int) = true) := plc_yes (by omega) (by omega)
  have HC : Hid _ := hc
  have HR1 : Hid _ := r1
  have HR2 : Hid _ := r2
  have hn1' : ¬ (n : Int) < 1 := by omega
  have hn2' : ¬ (64 : Int) < (n : Int) := by omega
  clear r1 r2 hc
  go_enter Try.func15, Try.ntmps15
  go_wp2_with fail
  generalize w.alloc (.cells #[.slice a1 F.length c1, .slice a2 T.length c2] 31) = W0 at *
  refine (isbelow_any v n W0).mono ?_
  rintro e w1 ⟨rfl, rfl⟩
  rw [HV.out]
  go_wp2_with fail
  refine (isbelow_any t n w1).mono ?_
  rintro e w1 ⟨rfl, rfl⟩
  rw [HT.out]
  obtain ⟨q0, q1⟩ := T0.out.cell
  go_wp2_with fail
  clear q0 q1
  refine (istable_any n _ _ F T w1 (H1.out.below B0.out) (H2.out.below B0.out) HR1.out HR2.out).mono ?_
  rintro e w2 ⟨rfl, b2⟩
  rw [HC.out]
  have B2 : Hid (Below w.heap.size w w2) := bthen B0.out b2
  have T2 : Hid _ := T0.out.below b2
  clear b2
  obtain ⟨q0, q1⟩ := T2.out.cell
  go_wp2_with fail
  go_ret2
  exact ⟨rfl, B2.out⟩
set_option maxRecDepth 100000 in
set_option maxHeartbeats 8000000 in
theorem bound_yes (n v t : Nat) (v1 v2 : Value) (F T : List (List Int)) (w : World) (h1 : SlT w v1 F) (h2 : SlT w v2 T) (r1 : Rl F) (r2 : Rl T) (hn1 : 1 ≤ n) (hn2 : n ≤ 64) (hv : v < n) (ht : t < n) (hc : ist n F T = true) :
    Calls Try.prog 15 #[.agg #[v1, v2], .int .i64 n, .int .i64 v, .int .i64 t] w fun e w' => e = .returned (.tuple #[.int .i64 (gre F T v t F.length), .int .i64 0]) ∧ Below w.heap.size w w' := by
  obtain ⟨a1, c1, rfl⟩ := h1.val
  obtain ⟨a2, c2, rfl⟩ := h2.val
  have H1 : Hid _ := h1
  have H2 : Hid _ := h2
  clear h1 h2
  have B0 : Hid (Below w.heap.size w (w.alloc (.cells #[.slice a1 F.length c1, .slice a2 T.length c2] 31))) := balloc (Below.refl _ _) _
  have T0 : Hid _ := bt_new w (.slice a1 F.length c1) (.slice a2 T.length c2)
  have HV : Hid (plc (n : Int) (v : Int) = true) := plc_yes (by omega) (by omega)
  have HT : Hid (plc (n : Int) (t : Int) = true) := plc_yes (by omega) (by omega)
  have HC : Hid _ := hc
  have HR1 : Hid _ := r1
  have HR2 : Hid _ := r2
  have hn1' : ¬ (n : Int) < 1 := by omega
  have hn2' : ¬ (64 : Int) < (n : Int) := by omega
  obtain ⟨hTF, hF, hT⟩ := ist_rt hc
  have HTF : Hid _ := hTF
  have HF : Hid _ := hF
  have HTT : Hid _ := hT
  clear hTF hF hT
  clear r1 r2 hc
  go_enter Try.func15, Try.ntmps15
  go_wp2_with fail
  generalize w.alloc (.cells #[.slice a1 F.length c1, .slice a2 T.length c2] 31) = W0 at *
  refine (isbelow_any v n W0).mono ?_
  rintro e w1 ⟨rfl, rfl⟩
  rw [HV.out]
  go_wp2_with fail
  refine (isbelow_any t n w1).mono ?_
  rintro e w1 ⟨rfl, rfl⟩
  rw [HT.out]
  obtain ⟨q0, q1⟩ := T0.out.cell
  go_wp2_with fail
  clear q0 q1
  refine (istable_any n _ _ F T w1 (H1.out.below B0.out) (H2.out.below B0.out) HR1.out HR2.out).mono ?_
  rintro e w2 ⟨rfl, b2⟩
  rw [HC.out]
  have B2 : Hid (Below w.heap.size w w2) := bthen B0.out b2
  have T2 : Hid _ := T0.out.below b2
  clear b2
  obtain ⟨q0, q1⟩ := T2.out.cell
  go_wp2_with fail
  clear q0 q1
  refine (greatest_any n v t _ _ F T w2 ((H1.out.below B2.out)) ((H2.out.below B2.out)) HTF.out HF.out HTT.out hv ht).mono ?_
  rintro e w3 ⟨rfl, b3⟩
  have B3 : Hid (Below w.heap.size w w3) := bthen B2.out b3
  clear b3
  go_wp2_with fail
  go_ret2
  exact ⟨rfl, B3.out⟩
end Go.Proofs.Ytkbebdanpgaehaa
