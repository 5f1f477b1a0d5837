/-
  Pops in memory: rows of them, and a heap object; the order of two pops.
-/
import Derived.Test.YtdgihpegdcoilaaBA
import Derived.Test.YtdgihpegdcoilaaHp
namespace Go.Proofs.Ytdgihpegdcoilaa
open Go.RowKit
open Hp

theorem lesser_any (p q : Int × Int) (w : World) :
    Calls Try.prog 65 #[.agg #[.int .i64 p.1, .int .i64 p.2], .agg #[.int .i64 q.1, .int .i64 q.2]] w fun e w' => e = .returned (.bool (ltb p q)) ∧ Below w.heap.size w w' := by
  obtain ⟨a, b⟩ := p
  obtain ⟨c, d⟩ := q
  have HL : Hid (decide (a < c) = ltb (a, b) (c, d)) := rfl
  go_enter Try.func65, Try.ntmps65
  go_wp2
  go_ret
  exact ⟨ret_bool HL.out, by repeat (first | exact Below.refl _ _ | refine balloc ?_ _ )⟩
/-- The cells of a list of pops, one behind the other. -/
def flat : List (Int × Int) → List Value
  | [] => []
  | p :: r => .int .i64 p.1 :: .int .i64 p.2 :: flat r
theorem flat_length (ps : List (Int × Int)) : (flat ps).length = ps.length * 2 := by
  induction ps with
  | nil => rfl
  | cons p r ih => simp [flat, ih]; omega
theorem flat_append (a b : List (Int × Int)) : flat (a ++ b) = flat a ++ flat b := by
  induction a with
  | nil => rfl
  | cons p r ih => simp [flat, ih]
theorem flat_get (ps : List (Int × Int)) (i : Nat) (h : i < ps.length) : (flat ps)[i * 2]? = some (.int .i64 (at' ps i).1) ∧ (flat ps)[i * 2 + 1]? = some (.int .i64 (at' ps i).2) := by
  induction ps generalizing i with
  | nil => simp at h
  | cons p r ih =>
    cases i with
    | zero => exact ⟨rfl, rfl⟩
    | succ i =>
      have := ih i (by simpa using h)
      have e1 : (i + 1) * 2 = i * 2 + 1 + 1 := by omega
      have e2 : (i + 1) * 2 + 1 = i * 2 + 1 + 1 + 1 := by omega
      rw [e2, e1]
      simp only [flat, List.getElem?_cons_succ]
      exact this
theorem flat_set (ps : List (Int × Int)) (i : Nat) (x y : Int) : ((flat ps).set (i * 2) (.int .i64 x)).set (i * 2 + 1) (.int .i64 y) = flat (ps.set i (x, y)) := by
  induction ps generalizing i with
  | nil => rfl
  | cons p r ih =>
    cases i with
    | zero => rfl
    | succ i =>
      have e1 : (i + 1) * 2 = i * 2 + 1 + 1 := by omega
      have e2 : (i + 1) * 2 + 1 = i * 2 + 1 + 1 + 1 := by omega
      rw [e2, e1]
      simp only [flat, List.set_cons_succ]
      rw [ih]
/-- A row of pops that the calls made for themselves: block g, room for cap, the first of it the pops ps. -/
def Row (w : World) (g cap : Nat) (ps : List (Int × Int)) : Prop :=
  ∃ cur : Array Value, w.heap[g]? = some (.cells cur 68 (0, 0)) ∧ ps.length ≤ cap ∧ cap ≤ maxLen ∧ cur.size = cap * 2 ∧ cur.toList.take (ps.length * 2) = flat ps
theorem Row.owns {w : World} {g cap base : Nat} {ps : List (Int × Int)} (h : Row w g cap ps) (hb : base ≤ g) : w.ownsRow base 68 2 (.slice (some ⟨g, 0, none⟩) ps.length cap) ps.length (flat ps) := by
  obtain ⟨cur, h1, h2, h3, h4, h5⟩ := h
  exact ⟨flat_length ps, .inr ⟨g, cap, cur, rfl, hb, h1, h2, h3, h4, h5⟩⟩
theorem Row.of_owns {w : World} {g cap base n : Nat} {ps : List (Int × Int)} (hn : n = ps.length) (h : w.ownsRow base 68 2 (.slice (some ⟨g, 0, none⟩) n cap) n (flat ps)) : Row w g cap ps ∧ base ≤ g := by
  subst hn
  obtain ⟨_, h2⟩ := h
  rcases h2 with ⟨h2, _⟩ | ⟨g', cap', cur, hv, hb, h1, h2, h3, h4, h5⟩
  · cases h2
  · simp only [Value.slice.injEq, Option.some.injEq, Addr.mk.injEq, and_true, true_and] at hv
    obtain ⟨rfl, rfl⟩ := hv
    exact ⟨⟨cur, h1, h2, h3, h4, h5⟩, hb⟩
theorem Row.lt {w : World} {g cap : Nat} {ps : List (Int × Int)} (h : Row w g cap ps) : g < w.heap.size := by
  obtain ⟨cur, h1, _⟩ := h
  rcases Nat.lt_or_ge g w.heap.size with hlt | hge
  · exact hlt
  · rw [Array.getElem?_eq_none hge] at h1; cases h1
theorem Row.frame {w w' : World} {g cap : Nat} {ps : List (Int × Int)} (h : Row w g cap ps) (hb : w'.heap[g]? = w.heap[g]?) : Row w' g cap ps := by
  obtain ⟨cur, h1, r⟩ := h
  exact ⟨cur, hb.trans h1, r⟩
theorem Row.cell {w : World} {g cap : Nat} {ps : List (Int × Int)} (h : Row w g cap ps) (i : Nat) (hi : i < ps.length) :
    w.cell? ⟨g, i * 2, none⟩ = some (.int .i64 (at' ps i).1) ∧ w.cell? ⟨g, i * 2 + 1, none⟩ = some (.int .i64 (at' ps i).2) ∧ w.frozen? ⟨g, i * 2, none⟩ = false ∧ w.frozen? ⟨g, i * 2 + 1, none⟩ = false := by
  obtain ⟨cur, h1, h2, h3, h4, h5⟩ := h
  obtain ⟨f1, f2⟩ := flat_get ps i hi
  have k1 : cur[i * 2]? = some (.int .i64 (at' ps i).1) := by
    rw [← f1, ← h5, List.getElem?_take_of_lt (by omega), Array.getElem?_toList]
  have k2 : cur[i * 2 + 1]? = some (.int .i64 (at' ps i).2) := by
    rw [← f2, ← h5, List.getElem?_take_of_lt (by omega), Array.getElem?_toList]
  simp [World.cell?, World.frozen?, h1, k1, k2]
theorem Row.put {w : World} {g cap : Nat} {ps : List (Int × Int)} (h : Row w g cap ps) (i : Nat) (x y : Int) :
    Row ((w.setCell ⟨g, i * 2, none⟩ (.int .i64 x)).setCell ⟨g, i * 2 + 1, none⟩ (.int .i64 y)) g cap (ps.set i (x, y)) := by
  obtain ⟨cur, h1, h2, h3, h4, h5⟩ := h
  refine ⟨_, heap_setCell_same _ _ _ _ _ _ _ (heap_setCell_same _ _ _ _ _ _ _ h1), by simpa using h2, h3, by simpa using h4, ?_⟩
  simp only [Array.toList_setIfInBounds, List.length_set]
  rw [List.take_set, List.take_set, h5, flat_set]
/-- A heap object: its head in block H, its pops in block g. -/
structure HeapIs (w : World) (H g cap : Nat) (ps : List (Int × Int)) : Prop where
  head : w.heap[H]? = some (.cells #[.func (.func 65) #[] #[], .slice (some ⟨g, 0, none⟩) ps.length cap] 105 (0, 0))
  row : Row w g cap ps
  ne : H ≠ g
  len : ps.length ≤ 8796093022208
theorem HeapIs.cell {w : World} {H g cap : Nat} {ps : List (Int × Int)} (h : HeapIs w H g cap ps) :
    w.cell? ⟨H, 0, none⟩ = some (.func (.func 65) #[] #[]) ∧ w.cell? ⟨H, 1, none⟩ = some (.slice (some ⟨g, 0, none⟩) ps.length cap) ∧ w.frozen? ⟨H, 1, none⟩ = false := by
  simp [World.cell?, World.frozen?, h.head]
theorem HeapIs.frame {w w' : World} {H g cap : Nat} {ps : List (Int × Int)} (h : HeapIs w H g cap ps) (h1 : w'.heap[H]? = w.heap[H]?) (h2 : w'.heap[g]? = w.heap[g]?) : HeapIs w' H g cap ps :=
  ⟨h1.trans h.head, h.row.frame h2, h.ne, h.len⟩
theorem HeapIs.ltH {w : World} {H g cap : Nat} {ps : List (Int × Int)} (h : HeapIs w H g cap ps) : H < w.heap.size := by
  rcases Nat.lt_or_ge H w.heap.size with hlt | hge
  · exact hlt
  · have := h.head; rw [Array.getElem?_eq_none hge] at this; cases this
theorem HeapIs.below {w w' : World} {H g cap : Nat} {ps : List (Int × Int)} (h : HeapIs w H g cap ps) (hb : Below w.heap.size w w') : HeapIs w' H g cap ps :=
  h.frame (hb.block _ h.ltH) (hb.block _ h.row.lt)
theorem HeapIs.swp {w : World} {H g cap : Nat} {ps : List (Int × Int)} (h : HeapIs w H g cap ps) (i j : Nat) :
    HeapIs ((((w.setCell ⟨g, i * 2, none⟩ (.int .i64 (at' ps j).1)).setCell ⟨g, i * 2 + 1, none⟩ (.int .i64 (at' ps j).2)).setCell ⟨g, j * 2, none⟩ (.int .i64 (at' ps i).1)).setCell ⟨g, j * 2 + 1, none⟩ (.int .i64 (at' ps i).2)).drew H g cap (Hp.swp ps i j) := by
  have r := (h.row.put i (at' ps j).1 (at' ps j).2).put j (at' ps i).1 (at' ps i).2
  refine ⟨?_, r, h.ne, by rw [swp_length]; exact h.len⟩
  rw [swp_length]
  show ((((w.setCell _ _).setCell _ _).setCell _ _).setCell _ _).heap[H]? = _
  rw [Below.heap_setCell _ _ _ _ h.ne, Below.heap_setCell _ _ _ _ h.ne, Below.heap_setCell _ _ _ _ h.ne, Below.heap_setCell _ _ _ _ h.ne]
  exact h.head
set_option maxHeartbeats 4000000 in
theorem swap_any (H g i j cap : Nat) (ps : List (Int × Int)) (w : World) (hi : i < ps.length) (hj : j < ps.length) (hij : i ≠ j) (h : HeapIs w H g cap ps) :
    Calls Try.prog 78 #[.pointer (some ⟨H, 0, none⟩), .int .i64 i, .int .i64 j] w fun e w' => e = .returned (.tuple #[]) ∧ HeapIs w' H g cap (Hp.swp ps i j) ∧ w.grownBy w' (some g) := by
  obtain ⟨h0, h1, _⟩ := h.cell
  obtain ⟨c0, c1, f0, f1⟩ := h.row.cell i hi
  obtain ⟨c2, c3, f2, f3⟩ := h.row.cell j hj
  have HS : Hid _ := h.swp i j
  have hHg := h.ne
  have hlen := h.len
  clear h
  generalize at' ps i = p at *
  generalize at' ps j = q at *
  obtain ⟨a, b⟩ := p
  obtain ⟨c, d⟩ := q
  simp only at c0 c1 c2 c3 HS
  generalize hn : ps.length = n at *
  have i1 : (i : Int) < (n : Int) := by omega
  have j1 : (j : Int) < (n : Int) := by omega
  clear hn
  go_enter Try.func78, Try.ntmps78
  go_wp2_with fail
  go_region
  go_wp2
  go_end0
  exact ⟨rfl, HS.out, grown_drew (grown_setCell (grown_setCell (grown_setCell (grown_setCell (grown_refl _ _)))))⟩
end Go.Proofs.Ytdgihpegdcoilaa
