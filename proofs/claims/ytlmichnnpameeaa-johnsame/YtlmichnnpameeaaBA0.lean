/-
  The state of a search of package bell.
-/
import Derived.Test.YtlmichnnpameeaaNA
import Derived.Test.YtlmichnnpameeaaRP
import Derived.Test.YtlmichnnpameeaaBm
namespace Go.Proofs.Ytlmichnnpameeaa
open Go.RowKit
open Nm Wm Dm Bm

/-- The state of a search: its box, its costs, who stands ahead. -/
structure Sb (w F : World) (B G A N : Nat) (d a : Nat → Int) (wr : World) : Prop where
  oB : w.heap.size ≤ B
  oG : w.heap.size ≤ G
  oA : w.heap.size ≤ A
  n1 : B ≠ G
  n2 : B ≠ A
  n3 : G ≠ A
  box : wr.heap[B]? = some (.cells #[.slice (some ⟨G, 0, none⟩) N N, .slice (some ⟨A, 0, none⟩) N N] 84 (0, 0))
  dist : Ur wr G N d
  ahead : Ur wr A N a
  below : Below w.heap.size w wr
  size : F.heap.size ≤ wr.heap.size
  fr : ∀ k, k < F.heap.size → k ≠ G → k ≠ A → wr.heap[k]? = F.heap[k]?
theorem hp_lt {w : World} {k : Nat} {o : Obj} (h : w.heap[k]? = some o) : k < w.heap.size := by
  rcases Nat.lt_or_ge k w.heap.size with hlt | hge
  · exact hlt
  · rw [Array.getElem?_eq_none hge] at h; cases h
theorem Sb.kept {w F : World} {B G A N : Nat} {d a : Nat → Int} {wr wr' : World} (h : Sb w F B G A N d a wr) (hb : Below wr.heap.size wr wr') : Sb w F B G A N d a wr' :=
  ⟨h.oB, h.oG, h.oA, h.n1, h.n2, h.n3, (hb.block _ (hp_lt h.box)).trans h.box, h.dist.below hb, h.ahead.below hb, bthen h.below hb, Nat.le_trans h.size hb.size, fun k h1 h2 h3 => (hb.block _ (Nat.lt_of_lt_of_le h1 h.size)).trans (h.fr k h1 h2 h3)⟩
theorem Sb.cells {w F : World} {B G A N : Nat} {d a : Nat → Int} {wr : World} (h : Sb w F B G A N d a wr) : wr.cell? ⟨B, 0, none⟩ = some (.slice (some ⟨G, 0, none⟩) N N) ∧ wr.cell? ⟨B, 1, none⟩ = some (.slice (some ⟨A, 0, none⟩) N N) := by
  simp [World.cell?, h.box]
theorem Sb.putG {w F : World} {B G A N : Nat} {d a : Nat → Int} {wr : World} (h : Sb w F B G A N d a wr) (y : Nat) (x : Int) : Sb w F B G A N (upd d y x) a (wr.setCell ⟨G, y, none⟩ (.int .i64 x)) := by
  have n3 := h.n3
  have oG := h.oG
  refine ⟨h.oB, h.oG, h.oA, h.n1, h.n2, h.n3, ?_, h.dist.put y x, h.ahead.frame (Below.heap_setCell _ _ _ _ (fun e => n3 e.symm)), Below.setCell h.below (by simp; omega) _, by simp [World.setCell]; exact h.size, fun k h1 h2 h3 => (Below.heap_setCell _ _ _ _ h2).trans (h.fr k h1 h2 h3)⟩
  rw [Below.heap_setCell _ _ _ _ h.n1]; exact h.box
theorem Sb.putA {w F : World} {B G A N : Nat} {d a : Nat → Int} {wr : World} (h : Sb w F B G A N d a wr) (y : Nat) (x : Int) : Sb w F B G A N d (upd a y x) (wr.setCell ⟨A, y, none⟩ (.int .i64 x)) := by
  have oA := h.oA
  refine ⟨h.oB, h.oG, h.oA, h.n1, h.n2, h.n3, ?_, h.dist.frame (Below.heap_setCell _ _ _ _ h.n3), h.ahead.put y x, Below.setCell h.below (by simp; omega) _, by simp [World.setCell]; exact h.size, fun k h1 h2 h3 => (Below.heap_setCell _ _ _ _ h3).trans (h.fr k h1 h2 h3)⟩
  rw [Below.heap_setCell _ _ _ _ h.n2]; exact h.box
theorem Sb.rebase {w F : World} {B G A N : Nat} {d a : Nat → Int} {wr : World} (h : Sb w F B G A N d a wr) : Sb w wr B G A N d a wr :=
  ⟨h.oB, h.oG, h.oA, h.n1, h.n2, h.n3, h.box, h.dist, h.ahead, h.below, Nat.le_refl _, fun _ _ _ _ => rfl⟩
theorem Sb.cell {w F : World} {B G A N : Nat} {d a : Nat → Int} {wr : World} (h : Sb w F B G A N d a wr) {k o : Nat} {v : Value} (hk : F.cell? ⟨k, o, none⟩ = some v) (h2 : k ≠ G) (h3 : k ≠ A) : wr.cell? ⟨k, o, none⟩ = some v := by
  have := h.fr k (World.block_lt_of_cell? F ⟨k, o, none⟩ hk) h2 h3
  unfold World.cell? at *
  rw [this]; exact hk
theorem Sb.drew {w F : World} {B G A N : Nat} {d a : Nat → Int} {wr : World} (h : Sb w F B G A N d a wr) : Sb w F B G A N d a wr.drew := h.kept (Below.drew (Below.refl _ _))
theorem Box3.put {W : World} {B : Nat} {x y : Int} {v u : Value} {g o : Nat} (h : Box3 W B x y v) (hne : B ≠ g) : Box3 (W.setCell ⟨g, o, none⟩ u) B x y v := by
  have hh : ∀ i u', W.cell? ⟨B, i, none⟩ = some u' → (W.setCell ⟨g, o, none⟩ u).cell? ⟨B, i, none⟩ = some u' := fun i u' hc => by
    unfold World.cell? at *; rw [Below.heap_setCell _ _ _ _ hne]; exact hc
  exact ⟨hh _ _ h.g0, hh _ _ h.g1, hh _ _ h.g2⟩
end Go.Proofs.Ytlmichnnpameeaa
