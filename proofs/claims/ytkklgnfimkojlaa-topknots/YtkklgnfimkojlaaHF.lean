/-
  Contract: New.
-/
import Derived.Test.YtkklgnfimkojlaaHD
namespace Go.Proofs.Ytkklgnfimkojlaa
open Go.RowKit
open Hp

theorem heap_lt {w : World} {k : Nat} {o : Obj} (h : w.heap[k]? = some o) : k < w.heap.size := by
  rcases Nat.lt_or_ge k w.heap.size with hlt | hge
  · exact hlt
  · rw [Array.getElem?_eq_none hge] at h; cases h
theorem new_any (w : World) : Calls Try.prog 75 #[.func (.func 76) #[] #[]] w fun e w' => e = .returned (.pointer (some ⟨w.heap.size, 0, none⟩)) ∧ w' = w.alloc (.cells #[.func (.func 76) #[] #[], .slice none 0 0] 104) := by
  go_enter Try.func75, Try.ntmps75
  go_wp2
  go_ret
  exact ⟨rfl, rfl⟩
end Go.Proofs.Ytkklgnfimkojlaa
