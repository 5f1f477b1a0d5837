/-
  Contracts: Join; the document's cut.
-/
import Derived.Test.YtefikbjjdldomaaCA
import Derived.Deep.DeepAppendRoom
namespace Go.Proofs.Ytefikbjjdldomaa
open Go.RowKit
open Nm Wm Cm
attribute [local go_sem ↓] Go.wp_at_zero Go.wp_at_succ

theorem nums_news {w : World} {b off : Nat} {ls : List Int} (h : ∀ i, i < ls.length → w.cell? ⟨b, off + i, none⟩ = some (.int .i64 (ls.getD i 0))) :
    ∀ (j : Nat) (u : Value), (ls.map (fun z => Value.int .i64 z))[j]? = some u → w.cell? ((⟨b, off, none⟩ : Addr).add j) = some u := by
  intro j u hu
  have hadd : (⟨b, off, none⟩ : Addr).add j = ⟨b, off + j, none⟩ := by unfold Addr.add; split <;> simp_all
  have hj : j < ls.length := by
    rcases Nat.lt_or_ge j ls.length with h | h
    · exact h
    · rw [List.getElem?_eq_none (by simpa using h)] at hu; cases hu
  rw [hadd, h j hj]
  simp [hj] at hu
  rw [← hu]; simp [List.getD_eq_getElem?_getD, hj]
theorem nums_one (l : List Int) : ∀ u ∈ l.map (fun z => Value.int .i64 z), u.oneCell' = true := by
  intro u hu
  obtain ⟨z, _, rfl⟩ := List.mem_map.1 hu
  rfl
theorem tail_cells {w : World} {g off : Nat} {b : List Int} (h : ∀ i, i < b.length → w.cell? ⟨g, off + i, none⟩ = some (.int .i64 (b.getD i 0))) : ∀ i, i < b.tail.length → w.cell? ⟨g, off + 1 + i, none⟩ = some (.int .i64 (b.tail.getD i 0)) := by
  intro i hi
  simp at hi
  have := h (i + 1) (by omega)
  rw [show off + 1 + i = off + (i + 1) by omega, this]
  cases b with
  | nil => simp at hi
  | cons x r => rfl

end Go.Proofs.Ytefikbjjdldomaa
