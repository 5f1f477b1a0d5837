/-
  Edges that the calls made for themselves, as they are read.
-/
import Derived.Test.YtekeajencihfgaaDoorNA
namespace Go.Proofs.YtekeajencihfgaaDoor
open Go.RowKit
open Nm

theorem flat3_length (ps : List E) : (flat3 ps).length = ps.length * 3 := by
  induction ps with
  | nil => rfl
  | cons p r ih => simp [flat3, ih]; omega
theorem flat3_get (ps : List E) (i : Nat) (h : i < ps.length) : (flat3 ps)[i * 3]? = some (.int .i64 (at3 ps i).1) ∧ (flat3 ps)[i * 3 + 1]? = some (.int .i64 (at3 ps i).2.1) ∧ (flat3 ps)[i * 3 + 2]? = some (.int .i64 (at3 ps i).2.2) := by
  induction ps generalizing i with
  | nil => simp at h
  | cons p r ih =>
    cases i with
    | zero => exact ⟨rfl, rfl, rfl⟩
    | succ i =>
      have := ih i (by simpa using h)
      have e1 : (i + 1) * 3 = i * 3 + 1 + 1 + 1 := by omega
      have e2 : (i + 1) * 3 + 1 = i * 3 + 1 + 1 + 1 + 1 := by omega
      have e3 : (i + 1) * 3 + 2 = i * 3 + 2 + 1 + 1 + 1 := by omega
      rw [e3, e2, e1]
      simp only [flat3, List.getElem?_cons_succ]
      exact this
theorem Es.sl {w : World} {base : Nat} {v : Value} {es : List E} (h : Es w base v es) : SlE w v es := by
  rcases h.own.2 with ⟨rfl, h0⟩ | ⟨g, cap, cur, rfl, _, h1, h2, h3, h4, h5⟩
  · exact .no _ _ rfl (List.length_eq_zero_iff.1 h0)
  · refine .row g 0 cap rfl (fun i hi => ?_)
    obtain ⟨f1, f2, f3⟩ := flat3_get es i hi
    have k1 : cur[i * 3]? = some (.int .i64 (at3 es i).1) := by
      rw [← f1, ← h5, List.getElem?_take_of_lt (by omega), Array.getElem?_toList]
    have k2 : cur[i * 3 + 1]? = some (.int .i64 (at3 es i).2.1) := by
      rw [← f2, ← h5, List.getElem?_take_of_lt (by omega), Array.getElem?_toList]
    have k3 : cur[i * 3 + 2]? = some (.int .i64 (at3 es i).2.2) := by
      rw [← f3, ← h5, List.getElem?_take_of_lt (by omega), Array.getElem?_toList]
    rw [Nat.zero_add]
    simp [World.cell?, h1, k1, k2, k3]
end Go.Proofs.YtekeajencihfgaaDoor
