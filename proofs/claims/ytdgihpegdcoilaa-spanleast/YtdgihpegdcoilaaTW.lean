/-
  Two places and an edge; what it costs.
-/
import Derived.Test.YtdgihpegdcoilaaND
import Derived.Test.YtdgihpegdcoilaaIE
import Derived.Test.YtdgihpegdcoilaaRV
import Derived.Test.YtdgihpegdcoilaaBm
namespace Go.Proofs.Ytdgihpegdcoilaa
open Go.RowKit
open Nm Wm Dm Bm

theorem rnt_two : Rnt 2 [(0, 1, 5)] := ⟨by omega, by omega, by simp, by simp⟩

set_option maxRecDepth 100000 in
theorem two_any (w : World) : Calls Try.prog 23 #[] w fun e w' => ∃ X, e = .returned (.agg #[.int .i64 2, .slice (some ⟨X, 0, none⟩) 1 1]) ∧ SlE w' (.slice (some ⟨X, 0, none⟩) 1 1) [(0, 1, 5)] ∧ Below w.heap.size w w' := by
  go_enter Try.func23, Try.ntmps23
  go_wp2_with fail
  have E2 : Hid _ := lit_edges (w.alloc (.cells #[.int .i64 2, .slice (some ⟨w.heap.size + 1, 0, none⟩) 1 1] 35)) [(0, 1, 5)] #[.int .i64 0, .int .i64 1, .int .i64 5] 1 rfl rfl
  have e : (w.alloc (.cells #[.int .i64 2, .slice (some ⟨w.heap.size + 1, 0, none⟩) 1 1] 35)).heap.size = w.heap.size + 1 := by simp
  rw [e] at E2
  refine bodyPost_ret (v := .agg #[.int .i64 2, .slice (some ⟨w.heap.size + 1, 0, none⟩) 1 1]) ?_ rfl ⟨w.heap.size + 1, rfl, ?_, ?_⟩
  · simp [results, Try.results23, go_sem]
  · exact E2.out
  · exact balloc (balloc (Below.refl _ _) _) _
end Go.Proofs.Ytdgihpegdcoilaa
