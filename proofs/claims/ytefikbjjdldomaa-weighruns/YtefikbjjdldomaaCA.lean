/-
  Contracts: lasts, Cut.
-/
import Derived.Test.YtefikbjjdldomaaWA
import Derived.Test.YtefikbjjdldomaaMx
import Derived.Maps.OwnOps
import Derived.Maps.OwnSet
namespace Go.Proofs.Ytefikbjjdldomaa
open Go.RowKit Go.Maps
open Nm Wm Cm

theorem law3 : Keyed Try.prog 3 := int_keyed Try.underlying3
theorem zero3 (w : World) : (zeroValue 3).run Try.prog w = .ok (.int .i64 0) w := by kernel_rfl

/-- Of each of the first k numbers the map says where among these it comes last. -/
structure Ls (w : World) (B : Nat) (p : List Int) (k : Nat) (D : DataW Unit) : Prop where
  own : w.ownsMap Try.prog 3 (plainElem (H := Unit) Try.prog 3) B k D
  says : ∀ j, j < k → ∃ m : Nat, j ≤ m ∧ m < k ∧ p.getD m 0 = p.getD j 0 ∧ (∀ q, m < q → q < k → p.getD q 0 ≠ p.getD j 0) ∧ ∀ z, D.atKey (.int .i64 (p.getD j 0)) z = .lit (.int .i64 (m : Int))
theorem Ls.below {w w' : World} {B : Nat} {p : List Int} {k : Nat} {D : DataW Unit} (h : Ls w B p k D) (hb : Below w.heap.size w w') : Ls w' B p k D := by
  refine ⟨?_, h.says⟩
  have hlt := h.own.lt
  obtain ⟨es, c, h1, h2⟩ := h.own
  exact ⟨es, c, (hb.block B hlt).trans h1, h2⟩
theorem says_next {w : World} {B : Nat} {p : List Int} {k : Nat} {D : DataW Unit} {x : Int} (h : Ls w B p k D) (hx : p.getD k 0 = x) :
    ∀ j, j < k + 1 → ∃ m : Nat, j ≤ m ∧ m < k + 1 ∧ p.getD m 0 = p.getD j 0 ∧ (∀ q, m < q → q < k + 1 → p.getD q 0 ≠ p.getD j 0) ∧ ∀ z, (D.put (.int .i64 x) (.lit (.int .i64 (k : Int)))).atKey (.int .i64 (p.getD j 0)) z = .lit (.int .i64 (m : Int)) := by
  intro j hj
  by_cases e : p.getD j 0 = x
  · refine ⟨k, by omega, by omega, by rw [hx, e], fun q h1 h2 => absurd h1 (by omega), fun z => ?_⟩
    rw [e]; exact atKey_put_same (k := .int .i64 x) h.own.isMap trivial _ _
  · have hjk : j < k := by
      rcases (show j < k ∨ j = k by omega) with h1 | rfl
      · exact h1
      · exact absurd hx e
    obtain ⟨m, h1, h2, h3, h4, h5⟩ := h.says j hjk
    refine ⟨m, h1, by omega, h3, fun q hq1 hq2 => ?_, fun z => ?_⟩
    · rcases (show q < k ∨ q = k by omega) with hq | rfl
      · exact h4 q hq1 hq
      · rw [hx]; exact fun e' => e e'.symm
    · rw [atKey_put_other (by intro e'; simp at e'; exact e e')]; exact h5 z

end Go.Proofs.Ytefikbjjdldomaa
