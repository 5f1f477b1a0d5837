/-
  Contract: slices.Equal of pops.
-/
import Derived.Test.YtdgihpegdcoilaaHeapF
namespace Go.Proofs.Ytdgihpegdcoilaa.So
open Go.RowKit
open Hq

theorem eq_of_at {a b : List (Int × Int)} (hl : a.length = b.length) (h : ∀ i, i < a.length → at' a i = at' b i) : a = b := by
  apply List.ext_getElem hl
  intro i h1 h2
  have := h i h1
  unfold at' at this
  rw [List.getD_eq_getElem?_getD, List.getD_eq_getElem?_getD, List.getElem?_eq_getElem h1, List.getElem?_eq_getElem h2] at this
  exact this

/-- Two slices that are both there. -/
theorem SlR.some' {w : World} {v : Value} {ls : List (Int × Int)} (h : SlR w v ls) (hl : 0 < ls.length) : ∃ b off cap, v = .slice (some ⟨b, off, none⟩) ls.length cap ∧ ∀ i, i < ls.length → w.cell? ⟨b, off + i * 2, none⟩ = some (.int .i64 (at' ls i).1) ∧ w.cell? ⟨b, off + i * 2 + 1, none⟩ = some (.int .i64 (at' ls i).2) := by
  rcases h with ⟨_, _, _, rfl⟩ | ⟨b, off, cap, hv, hc⟩
  · simp at hl
  · exact ⟨b, off, cap, hv, hc⟩

end Go.Proofs.Ytdgihpegdcoilaa.So
