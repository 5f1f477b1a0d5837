/-
  Contract: New, of numbers.
-/
import Derived.Test.YtkklgnfimkojlaaGD
namespace Go.Proofs.Ytkklgnfimkojlaa.Gi
open Go.RowKit
open Hi

theorem new_any (w : World) : Calls Try.prog 34 #[.func (.func 35) #[] #[]] w fun e w' => e = .returned (.pointer (some ⟨w.heap.size, 0, none⟩)) ∧ w' = w.alloc (.cells #[.func (.func 35) #[] #[], .slice none 0 0] 74) := by
  go_enter Try.func34, Try.ntmps34
  go_wp2
  go_ret
  exact ⟨rfl, rfl⟩
end Go.Proofs.Ytkklgnfimkojlaa.Gi
