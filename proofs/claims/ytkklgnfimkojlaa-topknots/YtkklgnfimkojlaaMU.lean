/-
  A row of zeros.
-/
import Derived.Test.YtkklgnfimkojlaaRP
namespace Go.Proofs.Ytkklgnfimkojlaa
open Go.RowKit
theorem made_ur (n : Nat) (hn : n ≤ 64) (w : World) : (Instr.makeSlice 25 (.int .i64 n) (.int .i64 n)).run Try.prog w = .ok (.slice (some ⟨w.heap.size, 0, none⟩) n n) (w.alloc (.cells (Array.ofFn (n := n) fun _ => .int .i64 0) 3)) := by
  rw [made_run n hn w]
  have e : (List.replicate n (Value.int .i64 0)).toArray = Array.ofFn (n := n) fun _ => Value.int .i64 0 := by
    apply Array.ext
    · simp
    · intro i h1 h2
      simp
  rw [e]
end Go.Proofs.Ytkklgnfimkojlaa
