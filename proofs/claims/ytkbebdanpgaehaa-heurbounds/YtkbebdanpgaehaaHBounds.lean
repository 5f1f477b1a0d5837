/-
  The law HeurBounds.
-/
import Derived.Test.YtkbebdanpgaehaaES
import Derived.Test.YtkbebdanpgaehaaET
import Derived.Test.YtkbebdanpgaehaaEL
import Derived.Lib.MinMax
namespace Go.Proofs.Ytkbebdanpgaehaa.HBounds
open Go.RowKit
open Nm Wm Dm

theorem bound_bad (n v t : Int) (v1 v2 : Value) (F T : List (List Int)) (w : World) (h1 : SlT w v1 F) (h2 : SlT w v2 T) (hc : n < 1 ∨ 64 < n ∨ min v t < 0 ∨ n ≤ max v t) :
    Calls Try.prog 15 #[.agg #[v1, v2], .int .i64 n, .int .i64 v, .int .i64 t] w fun e w' => e = .returned (.tuple #[.int .i64 0, .int .i64 1]) ∧ Below w.heap.size w w' := by
  by_cases hn : n < 1 ∨ 64 < n
  · exact bound_n n v t v1 v2 F T w h1 h2 hn
  · cases hv : plc n v
    · exact bound_v n v t v1 v2 F T w h1 h2 (by omega) (by omega) hv
    · cases ht : plc n t
      · exact bound_t n v t v1 v2 F T w h1 h2 (by omega) (by omega) hv ht
      · exfalso
        have a := of_decide_eq_true hv
        have b := of_decide_eq_true ht
        omega
set_option maxRecDepth 100000 in
set_option maxHeartbeats 8000000 in
theorem walk_bad (n v t : Int) (v1 v2 : Value) (F T : List (List Int)) (w : World) (h1 : SlT w v1 F) (h2 : SlT w v2 T) (hc : n < 1 ∨ 64 < n ∨ min v t < 0 ∨ n ≤ max v t) :
    Calls Try.prog 5 #[.agg #[v1, v2], .int .i64 n, .int .i64 v, .int .i64 t] w fun e w' => e = .returned (.bool true) ∧ Below w.heap.size w w' := by
  obtain ⟨a1, c1, rfl⟩ := h1.val
  obtain ⟨a2, c2, rfl⟩ := h2.val
  have H1 : Hid _ := h1
  have H2 : Hid _ := h2
  clear h1 h2
  have B0 : Hid (Below w.heap.size w (w.alloc (.cells #[.slice a1 F.length c1, .slice a2 T.length c2] 31))) := balloc (Below.refl _ _) _
  have T0 : Hid _ := bt_new w (.slice a1 F.length c1) (.slice a2 T.length c2)
  have HB : Hid _ := fun (w' : World) h1 h2 => bound_bad n v t (.slice a1 F.length c1) (.slice a2 T.length c2) F T w' h1 h2 hc
  rcases (show n < 1 ∨ (¬ n < 1 ∧ 64 < n) ∨ (¬ n < 1 ∧ ¬ 64 < n ∧ min v t < 0) ∨ (¬ n < 1 ∧ ¬ 64 < n ∧ ¬ min v t < 0 ∧ n ≤ max v t) by omega) with k1 | ⟨k1, k2⟩ | ⟨k1, k2, k3⟩ | ⟨k1, k2, k3, k4⟩
  all_goals
    clear hc
    go_enter Try.func5, Try.ntmps5
    obtain ⟨q0, q1⟩ := T0.out.cell
    go_wp2_with fail
    clear q0 q1
    generalize w.alloc (.cells #[.slice a1 F.length c1, .slice a2 T.length c2] 31) = W0 at *
    refine (HB.out W0 (H1.out.below B0.out) (H2.out.below B0.out)).mono ?_
    rintro e w1 ⟨rfl, b1⟩
    have B1 : Hid (Below w.heap.size w w1) := bthen B0.out b1
    clear b1
    go_wp2_with fail
    go_ret
    exact ⟨rfl, B1.out⟩
set_option maxRecDepth 100000 in
set_option maxHeartbeats 8000000 in
theorem walk_form (n v t : Nat) (v1 v2 : Value) (F T : List (List Int)) (w : World) (h1 : SlT w v1 F) (h2 : SlT w v2 T) (r1 : Rl F) (r2 : Rl T) (hn1 : 1 ≤ n) (hn2 : n ≤ 64) (hv : v < n) (ht : t < n) (hc : ist n F T = false) :
    Calls Try.prog 5 #[.agg #[v1, v2], .int .i64 n, .int .i64 v, .int .i64 t] w fun e w' => e = .returned (.bool true) ∧ Below w.heap.size w w' := by
  obtain ⟨a1, c1, rfl⟩ := h1.val
  obtain ⟨a2, c2, rfl⟩ := h2.val
  have H1 : Hid _ := h1
  have H2 : Hid _ := h2
  clear h1 h2
  have B0 : Hid (Below w.heap.size w (w.alloc (.cells #[.slice a1 F.length c1, .slice a2 T.length c2] 31))) := balloc (Below.refl _ _) _
  have T0 : Hid _ := bt_new w (.slice a1 F.length c1) (.slice a2 T.length c2)
  have HC : Hid _ := hc
  have HR1 : Hid _ := r1
  have HR2 : Hid _ := r2
  have k1 : ¬ (n : Int) < 1 := by omega
  have k2 : ¬ (64 : Int) < (n : Int) := by omega
  have k3 : ¬ min (v : Int) (t : Int) < 0 := by omega
  have k4 : ¬ (n : Int) ≤ max (v : Int) (t : Int) := by omega
  clear r1 r2 hc
  go_enter Try.func5, Try.ntmps5
  obtain ⟨q0, q1⟩ := T0.out.cell
  go_wp2_with fail
  clear q0 q1
  generalize w.alloc (.cells #[.slice a1 F.length c1, .slice a2 T.length c2] 31) = W0 at *
  refine (bound_form n v t _ _ F T W0 (H1.out.below B0.out) (H2.out.below B0.out) HR1.out HR2.out hn1 hn2 hv ht HC.out).mono ?_
  rintro e w1 ⟨rfl, b1⟩
  have B1 : Hid (Below w.heap.size w w1) := bthen B0.out b1
  have T1 : Hid _ := T0.out.below b1
  clear b1
  obtain ⟨q0, q1⟩ := T1.out.cell
  go_wp2_with fail
  clear q0 q1
  refine (rtable_any n _ _ F T w1 (H1.out.below B1.out) (H2.out.below B1.out) HR1.out HR2.out hn1 hn2).mono ?_
  rintro e w2 ⟨rfl, b2⟩
  rw [HC.out]
  have B2 : Hid (Below w.heap.size w w2) := bthen B1.out b2
  have T2 : Hid _ := T1.out.below b2
  clear b2
  obtain ⟨q0, q1⟩ := T2.out.cell
  go_wp2_with fail
  go_ret
  exact ⟨rfl, B2.out⟩
set_option maxRecDepth 100000 in
set_option maxHeartbeats 8000000 in
theorem walk_yes (n v t : Nat) (v1 v2 : Value) (F T : List (List Int)) (w : World) (h1 : SlT w v1 F) (h2 : SlT w v2 T) (r1 : Rl F) (r2 : Rl T) (hn1 : 1 ≤ n) (hn2 : n ≤ 64) (hv : v < n) (ht : t < n) (hc : ist n F T = true) :
    Calls Try.prog 5 #[.agg #[v1, v2], .int .i64 n, .int .i64 v, .int .i64 t] w fun e w' => e = .returned (.bool true) ∧ Below w.heap.size w w' := by
  obtain ⟨a1, c1, rfl⟩ := h1.val
  obtain ⟨a2, c2, rfl⟩ := h2.val
  have H1 : Hid _ := h1
  have H2 : Hid _ := h2
  clear h1 h2
  have B0 : Hid (Below w.heap.size w (w.alloc (.cells #[.slice a1 F.length c1, .slice a2 T.length c2] 31))) := balloc (Below.refl _ _) _
  have T0 : Hid _ := bt_new w (.slice a1 F.length c1) (.slice a2 T.length c2)
  have HC : Hid _ := hc
  have HR1 : Hid _ := r1
  have HR2 : Hid _ := r2
  have k1 : ¬ (n : Int) < 1 := by omega
  have k2 : ¬ (64 : Int) < (n : Int) := by omega
  have k3 : ¬ min (v : Int) (t : Int) < 0 := by omega
  have k4 : ¬ (n : Int) ≤ max (v : Int) (t : Int) := by omega
  obtain ⟨hTF, hF, hT⟩ := ist_rt hc
  have HTF : Hid _ := hTF
  have HF : Hid _ := hF
  have HTT : Hid _ := hT
  clear hTF hF hT
  clear r1 r2 hc
  go_enter Try.func5, Try.ntmps5
  obtain ⟨q0, q1⟩ := T0.out.cell
  go_wp2_with fail
  clear q0 q1
  generalize w.alloc (.cells #[.slice a1 F.length c1, .slice a2 T.length c2] 31) = W0 at *
  refine (bound_yes n v t _ _ F T W0 (H1.out.below B0.out) (H2.out.below B0.out) HR1.out HR2.out hn1 hn2 hv ht HC.out).mono ?_
  rintro e w1 ⟨rfl, b1⟩
  have B1 : Hid (Below w.heap.size w w1) := bthen B0.out b1
  have T1 : Hid _ := T0.out.below b1
  clear b1
  obtain ⟨q0, q1⟩ := T1.out.cell
  go_wp2_with fail
  clear q0 q1
  refine (rtable_any n _ _ F T w1 (H1.out.below B1.out) (H2.out.below B1.out) HR1.out HR2.out hn1 hn2).mono ?_
  rintro e w2 ⟨rfl, b2⟩
  rw [HC.out]
  have B2 : Hid (Below w.heap.size w w2) := bthen B1.out b2
  have T2 : Hid _ := T1.out.below b2
  clear b2
  obtain ⟨q0, q1⟩ := T2.out.cell
  go_wp2_with fail
  clear q0 q1
  refine (rbound_any n v t _ _ F T w2 (H1.out.below B2.out) (H2.out.below B2.out) HTF.out HF.out HTT.out hv ht).mono ?_
  rintro e w3 ⟨rfl, b3⟩
  have B3 : Hid (Below w.heap.size w w3) := bthen B2.out b3
  clear b3
  generalize gre F T v t F.length = x at *
  have hxx : (x == x) = true := by simp
  go_wp2_with fail
  go_ret
  exact ⟨rfl, B3.out⟩
theorem walk (n v t : Int) (v1 v2 : Value) (F T : List (List Int)) (w : World) (h1 : SlT w v1 F) (h2 : SlT w v2 T) (r1 : Rl F) (r2 : Rl T) :
    Calls Try.prog 5 #[.agg #[v1, v2], .int .i64 n, .int .i64 v, .int .i64 t] w fun e w' => e = .returned (.bool true) ∧ Below w.heap.size w w' := by
  by_cases hc : n < 1 ∨ 64 < n ∨ min v t < 0 ∨ n ≤ max v t
  · exact walk_bad n v t v1 v2 F T w h1 h2 hc
  · obtain ⟨N, rfl⟩ := Int.eq_ofNat_of_zero_le (show 0 ≤ n by omega)
    obtain ⟨a, rfl⟩ := Int.eq_ofNat_of_zero_le (show 0 ≤ v by omega)
    obtain ⟨b, rfl⟩ := Int.eq_ofNat_of_zero_le (show 0 ≤ t by omega)
    cases hq : ist N F T
    · exact walk_form N a b v1 v2 F T w h1 h2 r1 r2 (by omega) (by omega) (by omega) (by omega) hq
    · exact walk_yes N a b v1 v2 F T w h1 h2 r1 r2 (by omega) (by omega) (by omega) (by omega) hq
end Go.Proofs.Ytkbebdanpgaehaa.HBounds
