/-
  Two places and an edge, from all to all; a table that is written out.
-/
import Derived.Test.YtlmichnnpameeaaFK
import Derived.Test.YtlmichnnpameeaaTW
namespace Go.Proofs.Ytlmichnnpameeaa
open Go.RowKit
open Nm Wm Dm Bm Fm Fl

/-- Two rows of two, written out. -/
theorem lit_tv {α : Type} {tr te : TypeId} (enc : α → Value) (w : World) (T : Nat → Nat → α) (c0 c1 : Array Value) (h0 : c0 = Array.ofFn (n := 2) fun i => enc (T 0 i)) (h1 : c1 = Array.ofFn (n := 2) fun i => enc (T 1 i)) :
    Tv tr te enc (((w.alloc (.cells c0 te)).alloc (.cells c1 te)).alloc (.cells #[.slice (some ⟨w.heap.size, 0, none⟩) 2 2, .slice (some ⟨w.heap.size + 1, 0, none⟩) 2 2] tr)) (w.heap.size + 1 + 1) 2 2 (fun i => w.heap.size + i) T := by
  have s1 : (w.alloc (.cells c0 te)).heap.size = w.heap.size + 1 := by simp
  have s2 : ((w.alloc (.cells c0 te)).alloc (.cells c1 te)).heap.size = w.heap.size + 1 + 1 := by simp
  have u0 : Uv te enc (w.alloc (.cells c0 te)) w.heap.size 2 (T 0) := ⟨by rw [← h0]; exact heap_alloc_new _ _⟩
  have u1 : Uv te enc ((w.alloc (.cells c0 te)).alloc (.cells c1 te)) (w.heap.size + 1) 2 (T 1) := ⟨by rw [← h1, ← s1]; exact heap_alloc_new _ _⟩
  refine ⟨⟨_, by rw [← s2]; exact heap_alloc_new _ _, rfl, fun i hi => ?_⟩, fun i hi => by omega, fun i hi => ?_, fun i j hi hj hij => by omega⟩
  · rcases (show i = 0 ∨ i = 1 by omega) with rfl | rfl <;> rfl
  · rcases (show i = 0 ∨ i = 1 by omega) with rfl | rfl
    · exact (u0.below (balloc (Below.refl _ _) _)).below (balloc (Below.refl _ _) _)
    · exact u1.below (balloc (Below.refl _ _) _)

/-- What is asked of two places and an edge. -/
def two_i (a b c d : Int) : Nat → Nat → Int := fun i j => if i = 0 then (if j = 0 then a else b) else (if j = 0 then c else d)
theorem two_good : (rns [(0, 1, 5)] (fun _ => 0) 2).s = -1 := by decide
theorem two_all : tbl 2 (fun s => spr [(0, 1, 5)] (Dm.start s) (2 - 1)) = tbl 2 (two_i 0 5 1099511627776 0) := by decide
theorem lit_two (w : World) (a b c d : Int) : SlT (((w.alloc (.cells #[.int .i64 a, .int .i64 b] 3)).alloc (.cells #[.int .i64 c, .int .i64 d] 3)).alloc (.cells #[.slice (some ⟨w.heap.size, 0, none⟩) 2 2, .slice (some ⟨w.heap.size + 1, 0, none⟩) 2 2] 41)) (.slice (some ⟨w.heap.size + 1 + 1, 0, none⟩) 2 2) (tbl 2 (two_i a b c d)) :=
  Tv.slt (lit_tv enci w (two_i a b c d) _ _ (by simp [Array.ofFn_succ, two_i, enci]) (by simp [Array.ofFn_succ, two_i, enci]))
end Go.Proofs.Ytlmichnnpameeaa
