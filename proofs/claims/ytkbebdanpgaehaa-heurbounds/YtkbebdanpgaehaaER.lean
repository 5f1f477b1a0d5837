/-
  Contracts: isTable, the document's Table, heur.Bound.
-/
import Derived.Test.YtkbebdanpgaehaaEP
import Derived.Test.YtkbebdanpgaehaaEQ
import Derived.Test.YtkbebdanpgaehaaEH
namespace Go.Proofs.Ytkbebdanpgaehaa
open Go.RowKit
open Nm Wm Dm
attribute [local go_sem ↓] Go.wp_at_zero Go.wp_at_succ

/-- Is it a table of n places? -/
def ist (N : Nat) (F T : List (List Int)) : Bool := decide (F.length = T.length) && (decide (F.length ≤ 4) && (F.all (acs N) && T.all (acs N)))
/-- Rows of lists no longer than may be. -/
structure Rl (rows : List (List Int)) : Prop where
  len : rows.length ≤ 5864062014634
  row : ∀ i, i < rows.length → (rows.getD i []).length ≤ 9223372036854775807
theorem Rl.big {rows : List (List Int)} (h : Rl rows) : rows.length ≤ 9223372036854775807 := by have := h.len; omega
theorem ist_rt {N : Nat} {F T : List (List Int)} (h : ist N F T = true) : T.length = F.length ∧ Rt N F ∧ Rt N T := by
  unfold ist at h
  simp only [Bool.and_eq_true, decide_eq_true_eq] at h
  obtain ⟨h1, h2, h3, h4⟩ := h
  refine ⟨h1.symm, ⟨h2, fun i hi => ?_⟩, ⟨by omega, fun i hi => ?_⟩⟩
  · obtain ⟨a, b⟩ := acs_yes (rows_at.1 h3 i hi)
    exact ⟨by omega, fun k hk => b k (by omega)⟩
  · obtain ⟨a, b⟩ := acs_yes (rows_at.1 h4 i hi)
    exact ⟨by omega, fun k hk => b k (by omega)⟩
set_option maxRecDepth 100000 in
set_option maxHeartbeats 8000000 in
theorem istable_any (N : Nat) (v1 v2 : Value) (F T : List (List Int)) (w : World) (h1 : SlT w v1 F) (h2 : SlT w v2 T) (r1 : Rl F) (r2 : Rl T) :
    Calls Try.prog 38 #[.agg #[v1, v2], .int .i64 N] w fun e w' => e = .returned (.bool (ist N F T)) ∧ Below w.heap.size w w' := by
  obtain ⟨a1, c1, rfl⟩ := h1.val
  obtain ⟨a2, c2, rfl⟩ := h2.val
  have H1 : Hid _ := h1
  have H2 : Hid _ := h2
  have HR1 : Hid _ := r1
  have HR2 : Hid _ := r2
  have hb1 := r1.len
  have hb2 := r2.len
  clear h1 h2 r1 r2
  have T0 : Hid _ := bt_new w (.slice a1 F.length c1) (.slice a2 T.length c2)
  have B0 : Hid (Below w.heap.size w (w.alloc (.cells #[.slice a1 F.length c1, .slice a2 T.length c2] 31))) := balloc (Below.refl _ _) _
  by_cases hl : F.length = T.length
  · by_cases h4 : F.length ≤ 4
    · have HQ : Hid (ist N F T = (F.all (acs N) && T.all (acs N))) := by unfold Hid ist; rw [decide_eq_true hl, decide_eq_true h4]; rfl
      have e1 : ((F.length : Int) == (T.length : Int)) = true := by rw [hl]; simp
      have e2 : (F.length : Int) ≤ 4 := by omega
      clear hl h4
      go_enter Try.func38, Try.ntmps38
      obtain ⟨q0, q1⟩ := T0.out.cell
      go_wp2_with fail
      clear q0 q1
      generalize w.alloc (.cells #[.slice a1 F.length c1, .slice a2 T.length c2] 31) = W0 at *
      refine (arerows_any N _ F W0 (H1.out.below B0.out) HR1.out.big HR1.out.row).mono ?_
      rintro e w1 ⟨rfl, b1⟩
      have T1 : Hid _ := T0.out.below b1
      have B1 : Hid (Below w.heap.size w w1) := bthen B0.out b1
      clear b1
      obtain ⟨q0, q1⟩ := T1.out.cell
      generalize F.all (acs N) = x at *
      cases x
      · go_wp2_with fail
        go_ret
        exact ⟨ret_bool (by rw [HQ.out]; rfl), B1.out⟩
      · go_wp2_with fail
        refine (arerows_any N _ T w1 (H2.out.below B1.out) HR2.out.big HR2.out.row).mono ?_
        rintro e w2 ⟨rfl, b2⟩
        have B2 : Hid (Below w.heap.size w w2) := bthen B1.out b2
        clear b2
        generalize T.all (acs N) = y at *
        go_wp2_with fail
        go_ret
        exact ⟨ret_bool (by rw [HQ.out]; cases y <;> rfl), B2.out⟩
    · have HQ : Hid (ist N F T = false) := by unfold Hid ist; rw [decide_eq_true hl, decide_eq_false h4]; rfl
      have e1 : ((F.length : Int) == (T.length : Int)) = true := by rw [hl]; simp
      have e2 : ¬ (F.length : Int) ≤ 4 := by omega
      clear hl h4
      go_enter Try.func38, Try.ntmps38
      obtain ⟨q0, q1⟩ := T0.out.cell
      go_wp2_with fail
      go_ret
      exact ⟨ret_bool HQ.out.symm, B0.out⟩
  · have HQ : Hid (ist N F T = false) := by unfold Hid ist; rw [decide_eq_false hl]; rfl
    have e1 : ((F.length : Int) == (T.length : Int)) = false := by simp; omega
    clear hl
    go_enter Try.func38, Try.ntmps38
    obtain ⟨q0, q1⟩ := T0.out.cell
    go_wp2_with fail
    go_ret
    exact ⟨ret_bool HQ.out.symm, B0.out⟩
end Go.Proofs.Ytkbebdanpgaehaa
