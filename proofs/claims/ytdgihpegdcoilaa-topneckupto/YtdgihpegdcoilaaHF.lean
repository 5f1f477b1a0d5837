/-
  Contract: New.
-/
import Derived.Test.YtdgihpegdcoilaaHD
namespace Go.Proofs.Ytdgihpegdcoilaa
open Go.RowKit
open Hp

theorem heap_lt {w : World} {k : Nat} {o : Obj} (h : w.heap[k]? = some o) : k < w.heap.size := by
  rcases Nat.lt_or_ge k w.heap.size with hlt | hge
  · exact hlt
  · rw [Array.getElem?_eq_none hge] at h; cases h
theorem new_any (w : World) : Calls Try.prog 64 #[.func (.func 65) #[] #[]] w fun e w' => e = .returned (.pointer (some ⟨w.heap.size, 0, none⟩)) ∧ w' = w.alloc (.cells #[.func (.func 65) #[] #[], .slice none 0 0] 105) := by
  go_enter Try.func64, Try.ntmps64
  go_wp2
  go_ret
  exact ⟨rfl, rfl⟩
end Go.Proofs.Ytdgihpegdcoilaa
