/-
  Numbers in memory: rows of them, and a heap object; the order of two numbers.
-/
import Derived.Test.YtkklgnfimkojlaaBA
import Derived.Test.YtkklgnfimkojlaaHi
namespace Go.Proofs.Ytkklgnfimkojlaa.Gi
open Go.RowKit
open Hi

theorem lesser_any (p q : Nat) (w : World) :
    Calls Try.prog 35 #[.int .i64 p, .int .i64 q] w fun e w' => e = .returned (.bool (ltb p q)) ∧ w' = w := by
  have HL : Hid (decide (p < q) = ltb p q) := rfl
  go_enter Try.func35, Try.ntmps35
  go_wp2
  go_ret
  exact ⟨ret_bool HL.out, rfl⟩
/-- The cells of a list of numbers. -/
def flat (ps : List Nat) : List Value := ps.map (fun n => .int .i64 ((n : Nat) : Int))
theorem flat_length (ps : List Nat) : (flat ps).length = ps.length := by simp [flat]
theorem flat_append (a b : List Nat) : flat (a ++ b) = flat a ++ flat b := by simp [flat]
theorem flat_get (ps : List Nat) (i : Nat) (h : i < ps.length) : (flat ps)[i]? = some (.int .i64 ((at' ps i : Nat) : Int)) := by
  unfold flat at'
  rw [List.getElem?_map, List.getD_eq_getElem?_getD, List.getElem?_eq_getElem h]
  rfl
theorem flat_set (ps : List Nat) (i x : Nat) : (flat ps).set i (.int .i64 ((x : Nat) : Int)) = flat (ps.set i x) := by
  unfold flat; rw [List.map_set]
/-- A row of numbers that the calls made for themselves: block g, room for cap, the first of it the numbers ps. -/
def Row (w : World) (g cap : Nat) (ps : List Nat) : Prop :=
  ∃ cur : Array Value, w.heap[g]? = some (.cells cur 3 (0, 0)) ∧ ps.length ≤ cap ∧ cap ≤ maxLen ∧ cur.size = cap ∧ cur.toList.take ps.length = flat ps
theorem Row.owns {w : World} {g cap base : Nat} {ps : List Nat} (h : Row w g cap ps) (hb : base ≤ g) : w.ownsRow base 3 1 (.slice (some ⟨g, 0, none⟩) ps.length cap) ps.length (flat ps) := by
  obtain ⟨cur, h1, h2, h3, h4, h5⟩ := h
  exact ⟨by rw [flat_length, Nat.mul_one], .inr ⟨g, cap, cur, rfl, hb, h1, h2, h3, by rw [Nat.mul_one]; exact h4, by rw [Nat.mul_one]; exact h5⟩⟩
theorem Row.of_owns {w : World} {g cap base n : Nat} {ps : List Nat} (hn : n = ps.length) (h : w.ownsRow base 3 1 (.slice (some ⟨g, 0, none⟩) n cap) n (flat ps)) : Row w g cap ps ∧ base ≤ g := by
  subst hn
  obtain ⟨_, h2⟩ := h
  rcases h2 with ⟨h2, _⟩ | ⟨g', cap', cur, hv, hb, h1, h2, h3, h4, h5⟩
  · cases h2
  · simp only [Value.slice.injEq, Option.some.injEq, Addr.mk.injEq, and_true, true_and] at hv
    obtain ⟨rfl, rfl⟩ := hv
    rw [Nat.mul_one] at h4 h5
    exact ⟨⟨cur, h1, h2, h3, h4, h5⟩, hb⟩
theorem Row.lt {w : World} {g cap : Nat} {ps : List Nat} (h : Row w g cap ps) : g < w.heap.size := by
  obtain ⟨cur, h1, _⟩ := h
  rcases Nat.lt_or_ge g w.heap.size with hlt | hge
  · exact hlt
  · rw [Array.getElem?_eq_none hge] at h1; cases h1
theorem Row.frame {w w' : World} {g cap : Nat} {ps : List Nat} (h : Row w g cap ps) (hb : w'.heap[g]? = w.heap[g]?) : Row w' g cap ps := by
  obtain ⟨cur, h1, r⟩ := h
  exact ⟨cur, hb.trans h1, r⟩
theorem Row.cell {w : World} {g cap : Nat} {ps : List Nat} (h : Row w g cap ps) (i : Nat) (hi : i < ps.length) :
    w.cell? ⟨g, i, none⟩ = some (.int .i64 ((at' ps i : Nat) : Int)) ∧ w.frozen? ⟨g, i, none⟩ = false := by
  obtain ⟨cur, h1, h2, h3, h4, h5⟩ := h
  have f1 := flat_get ps i hi
  have k1 : cur[i]? = some (.int .i64 ((at' ps i : Nat) : Int)) := by
    rw [← f1, ← h5, List.getElem?_take_of_lt (by omega), Array.getElem?_toList]
  simp [World.cell?, World.frozen?, h1, k1]
theorem Row.put {w : World} {g cap : Nat} {ps : List Nat} (h : Row w g cap ps) (i x : Nat) :
    Row (w.setCell ⟨g, i, none⟩ (.int .i64 ((x : Nat) : Int))) g cap (ps.set i x) := by
  obtain ⟨cur, h1, h2, h3, h4, h5⟩ := h
  refine ⟨_, heap_setCell_same _ _ _ _ _ _ _ h1, by simpa using h2, h3, by simpa using h4, ?_⟩
  simp only [Array.toList_setIfInBounds, List.length_set]
  rw [List.take_set, h5, flat_set]
/-- A heap object: its head in block H, its numbers in block g. -/
structure HeapIs (w : World) (H g cap : Nat) (ps : List Nat) : Prop where
  head : w.heap[H]? = some (.cells #[.func (.func 35) #[] #[], .slice (some ⟨g, 0, none⟩) ps.length cap] 74 (0, 0))
  row : Row w g cap ps
  ne : H ≠ g
  len : ps.length ≤ 8796093022208
theorem HeapIs.cell {w : World} {H g cap : Nat} {ps : List Nat} (h : HeapIs w H g cap ps) :
    w.cell? ⟨H, 0, none⟩ = some (.func (.func 35) #[] #[]) ∧ w.cell? ⟨H, 1, none⟩ = some (.slice (some ⟨g, 0, none⟩) ps.length cap) ∧ w.frozen? ⟨H, 1, none⟩ = false := by
  simp [World.cell?, World.frozen?, h.head]
theorem HeapIs.frame {w w' : World} {H g cap : Nat} {ps : List Nat} (h : HeapIs w H g cap ps) (h1 : w'.heap[H]? = w.heap[H]?) (h2 : w'.heap[g]? = w.heap[g]?) : HeapIs w' H g cap ps :=
  ⟨h1.trans h.head, h.row.frame h2, h.ne, h.len⟩
theorem HeapIs.ltH {w : World} {H g cap : Nat} {ps : List Nat} (h : HeapIs w H g cap ps) : H < w.heap.size := by
  rcases Nat.lt_or_ge H w.heap.size with hlt | hge
  · exact hlt
  · have := h.head; rw [Array.getElem?_eq_none hge] at this; cases this
theorem HeapIs.below {w w' : World} {H g cap : Nat} {ps : List Nat} (h : HeapIs w H g cap ps) (hb : Below w.heap.size w w') : HeapIs w' H g cap ps :=
  h.frame (hb.block _ h.ltH) (hb.block _ h.row.lt)
theorem HeapIs.swp {w : World} {H g cap : Nat} {ps : List Nat} (h : HeapIs w H g cap ps) (i j : Nat) :
    HeapIs ((w.setCell ⟨g, i, none⟩ (.int .i64 ((at' ps j : Nat) : Int))).setCell ⟨g, j, none⟩ (.int .i64 ((at' ps i : Nat) : Int))).drew H g cap (Hi.swp ps i j) := by
  have r := (h.row.put i (at' ps j)).put j (at' ps i)
  refine ⟨?_, r, h.ne, by rw [swp_length]; exact h.len⟩
  rw [swp_length]
  show ((w.setCell _ _).setCell _ _).heap[H]? = _
  rw [Below.heap_setCell _ _ _ _ h.ne, Below.heap_setCell _ _ _ _ h.ne]
  exact h.head
set_option maxHeartbeats 4000000 in
theorem swap_any (H g i j cap : Nat) (ps : List Nat) (w : World) (hi : i < ps.length) (hj : j < ps.length) (hij : i ≠ j) (h : HeapIs w H g cap ps) :
    Calls Try.prog 69 #[.pointer (some ⟨H, 0, none⟩), .int .i64 i, .int .i64 j] w fun e w' => e = .returned (.tuple #[]) ∧ HeapIs w' H g cap (Hi.swp ps i j) ∧ w.grownBy w' (some g) := by
  obtain ⟨h0, h1, _⟩ := h.cell
  obtain ⟨c0, f0⟩ := h.row.cell i hi
  obtain ⟨c2, f2⟩ := h.row.cell j hj
  have HS : Hid _ := h.swp i j
  have hHg := h.ne
  have hlen := h.len
  clear h
  generalize at' ps i = p at *
  generalize at' ps j = q at *
  generalize hn : ps.length = n at *
  have i1 : (i : Int) < (n : Int) := by omega
  have j1 : (j : Int) < (n : Int) := by omega
  clear hn
  go_enter Try.func69, Try.ntmps69
  go_wp2_with fail
  go_region
  go_wp2
  go_end0
  exact ⟨rfl, HS.out, grown_drew (grown_setCell (grown_setCell (grown_refl _ _)))⟩
end Go.Proofs.Ytkklgnfimkojlaa.Gi
