/-
  A row of edges that may be written; make of one.
-/
import Derived.Test.YtkklgnfimkojlaaND
namespace Go.Proofs.Ytkklgnfimkojlaa
open Go.RowKit
open Nm

/-- A row of m edges that may be written, as a function. -/
structure Er (w : World) (g m : Nat) (f : Nat → E) : Prop where
  at_ : ∃ cur, w.heap[g]? = some (.cells cur 34 (0, 0)) ∧ m * 3 ≤ cur.size ∧ ∀ i, i < m → cur[i * 3]? = some (.int .i64 (f i).1) ∧ cur[i * 3 + 1]? = some (.int .i64 (f i).2.1) ∧ cur[i * 3 + 2]? = some (.int .i64 (f i).2.2)
theorem Er.cell {w : World} {g m : Nat} {f : Nat → E} (h : Er w g m f) (i : Nat) (hi : i < m) : w.cell? ⟨g, i * 3, none⟩ = some (.int .i64 (f i).1) ∧ w.cell? ⟨g, i * 3 + 1, none⟩ = some (.int .i64 (f i).2.1) ∧ w.cell? ⟨g, i * 3 + 2, none⟩ = some (.int .i64 (f i).2.2) := by
  obtain ⟨cur, h1, h2, h3⟩ := h.at_
  obtain ⟨k0, k1, k2⟩ := h3 i hi
  simp [World.cell?, h1, k0, k1, k2]
theorem Er.frozen {w : World} {g m : Nat} {f : Nat → E} (h : Er w g m f) (o : Nat) : w.frozen? ⟨g, o, none⟩ = false := by
  obtain ⟨cur, h1, _⟩ := h.at_
  simp [World.frozen?, h1]
theorem Er.frame {w w' : World} {g m : Nat} {f : Nat → E} (h : Er w g m f) (hb : w'.heap[g]? = w.heap[g]?) : Er w' g m f := by
  obtain ⟨cur, h1, h2⟩ := h.at_
  exact ⟨cur, hb.trans h1, h2⟩
theorem Er.lt {w : World} {g m : Nat} {f : Nat → E} (h : Er w g m f) : g < w.heap.size := by
  obtain ⟨cur, h1, _⟩ := h.at_
  rcases Nat.lt_or_ge g w.heap.size with hlt | hge
  · exact hlt
  · rw [Array.getElem?_eq_none hge] at h1; cases h1
theorem Er.below {w w' : World} {g m : Nat} {f : Nat → E} (h : Er w g m f) (hb : Below w.heap.size w w') : Er w' g m f := h.frame (hb.block _ h.lt)
theorem Er.congr {w : World} {g m : Nat} {f f' : Nat → E} (h : Er w g m f) (e : ∀ i, i < m → f i = f' i) : Er w g m f' := by
  obtain ⟨cur, h1, h2, h3⟩ := h.at_
  exact ⟨cur, h1, h2, fun i hi => by rw [← e i hi]; exact h3 i hi⟩
/-- Edge k is written. -/
theorem Er.put3 {w : World} {g m : Nat} {f f' : Nat → E} (h : Er w g m f) (k : Nat) (hk : k < m) (x y z : Int) (hf : ∀ i, i < m → f' i = if i = k then (x, y, z) else f i) :
    Er (((w.setCell ⟨g, k * 3, none⟩ (.int .i64 x)).setCell ⟨g, k * 3 + 1, none⟩ (.int .i64 y)).setCell ⟨g, k * 3 + 2, none⟩ (.int .i64 z)) g m f' := by
  obtain ⟨cur, h1, h2, h3⟩ := h.at_
  refine ⟨_, heap_setCell_same _ _ _ _ _ _ _ (heap_setCell_same _ _ _ _ _ _ _ (heap_setCell_same _ _ _ _ _ _ _ h1)), by simpa using h2, fun i hi => ?_⟩
  obtain ⟨k0, k1, k2⟩ := h3 i hi
  rw [hf i hi]
  by_cases e : i = k
  · subst e
    rw [if_pos rfl]
    refine ⟨?_, ?_, ?_⟩
    · rw [Array.getElem?_setIfInBounds_ne (by omega), Array.getElem?_setIfInBounds_ne (by omega), Array.getElem?_setIfInBounds_self_of_lt (by omega)]
    · rw [Array.getElem?_setIfInBounds_ne (by omega), Array.getElem?_setIfInBounds_self_of_lt (by simp; omega)]
    · rw [Array.getElem?_setIfInBounds_self_of_lt (by simp; omega)]
  · rw [if_neg e]
    refine ⟨?_, ?_, ?_⟩
    all_goals rw [Array.getElem?_setIfInBounds_ne (by omega), Array.getElem?_setIfInBounds_ne (by omega), Array.getElem?_setIfInBounds_ne (by omega)]
    · exact k0
    · exact k1
    · exact k2
theorem Er.sl {w : World} {g cap m : Nat} {f : Nat → E} {es : List E} (h : Er w g m f) (hm : es.length = m) (hf : ∀ i, i < m → at3 es i = f i) : SlE w (.slice (some ⟨g, 0, none⟩) m cap) es := by
  subst hm
  refine .row g 0 cap rfl (fun i hi => ?_)
  rw [Nat.zero_add, hf i hi]
  exact h.cell i hi

def zer3 (n : Nat) : Array Value := Array.ofFn (n := n * 3) fun _ => .int .i64 0
theorem made_edges (n : Nat) (hn : n ≤ 600) (w : World) : (Instr.makeSlice 22 (.int .i64 n) (.int .i64 n)).run Try.prog w = .ok (.slice (some ⟨w.heap.size, 0, none⟩) n n) (w.alloc (.cells (zer3 n) 34)) := by
  obtain ⟨i, hi, hz, hs, hb⟩ := info47_parts
  have := run_makeSlice (P := Try.prog) w 22 34 i (.agg #[.int .i64 0, .int .i64 0, .int .i64 0]) Try.underlying22 hi hz .i64 .i64 n n (by omega) (by omega) (by rw [hs]; omega) (by rw [hb]; omega) (by omega)
  rw [hs] at this
  simp only [Int.toNat_natCast] at this
  rw [this]
  have e : madeCells (Value.agg #[Value.int .i64 0, Value.int .i64 0, Value.int .i64 0]).cells (n * 3) = zer3 n := by
    apply Array.ext
    · simp [madeCells, zer3]
    · intro i h1 h2
      simp only [madeCells, zer3, Array.getElem_ofFn]
      have h3 : i % 3 = 0 ∨ i % 3 = 1 ∨ i % 3 = 2 := by omega
      rcases h3 with h | h | h
      all_goals simp [Value.cells, h]
  rw [e]
theorem er_made (w : World) (n : Nat) : Er (w.alloc (.cells (zer3 n) 34)) w.heap.size n (fun _ => (0, 0, 0)) := by
  refine ⟨_, heap_alloc_new w _, by simp [zer3], fun i hi => ?_⟩
  have h0 : i * 3 < n * 3 := by omega
  have h1 : i * 3 + 1 < n * 3 := by omega
  have h2 : i * 3 + 2 < n * 3 := by omega
  simp [zer3, h0, h1, h2]
end Go.Proofs.Ytkklgnfimkojlaa
