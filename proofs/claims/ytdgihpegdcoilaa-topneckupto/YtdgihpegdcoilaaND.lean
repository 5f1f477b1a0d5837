/-
  Edges that the calls made for themselves; Turn.
-/
import Derived.Test.YtdgihpegdcoilaaNA
namespace Go.Proofs.Ytdgihpegdcoilaa
open Go.RowKit
open Nm

/-- The cells of a list of edges, one behind the other. -/
def flat3 : List E → List Value
  | [] => []
  | p :: r => .int .i64 p.1 :: .int .i64 p.2.1 :: .int .i64 p.2.2 :: flat3 r
theorem flat3_append (a b : List E) : flat3 (a ++ b) = flat3 a ++ flat3 b := by
  induction a with
  | nil => rfl
  | cons p r ih => simp [flat3, ih]
theorem flat3_length (ps : List E) : (flat3 ps).length = ps.length * 3 := by
  induction ps with
  | nil => rfl
  | cons p r ih => simp [flat3, ih]; omega
theorem flat3_get (ps : List E) (i : Nat) (h : i < ps.length) : (flat3 ps)[i * 3]? = some (.int .i64 (at3 ps i).1) ∧ (flat3 ps)[i * 3 + 1]? = some (.int .i64 (at3 ps i).2.1) ∧ (flat3 ps)[i * 3 + 2]? = some (.int .i64 (at3 ps i).2.2) := by
  induction ps generalizing i with
  | nil => simp at h
  | cons p r ih =>
    cases i with
    | zero => exact ⟨rfl, rfl, rfl⟩
    | succ i =>
      have := ih i (by simpa using h)
      have e1 : (i + 1) * 3 = i * 3 + 1 + 1 + 1 := by omega
      have e2 : (i + 1) * 3 + 1 = i * 3 + 1 + 1 + 1 + 1 := by omega
      have e3 : (i + 1) * 3 + 2 = i * 3 + 2 + 1 + 1 + 1 := by omega
      rw [e3, e2, e1]
      simp only [flat3, List.getElem?_cons_succ]
      exact this
/-- A list of edges that the calls made for themselves, behind base. -/
structure Es (w : World) (base : Nat) (v : Value) (es : List E) : Prop where
  own : w.ownsRow base 50 3 v es.length (flat3 es)
theorem Es.below {w w' : World} {base : Nat} {v : Value} {es : List E} (h : Es w base v es) (hb : Below w.heap.size w w') : Es w' base v es := ⟨owns_below h.own hb⟩
theorem Es.mono {w : World} {b b' : Nat} {v : Value} {es : List E} (h : Es w b v es) (hb : b' ≤ b) : Es w b' v es := by
  obtain ⟨h1, h2⟩ := h.own
  refine ⟨h1, ?_⟩
  rcases h2 with h2 | ⟨g, cap, cur, h3, h4, h5⟩
  · exact .inl h2
  · exact .inr ⟨g, cap, cur, h3, Nat.le_trans hb h4, h5⟩
theorem Es.other {w : World} {base g o : Nat} {u v : Value} {l : List E} (h : Es w base v l) (hg : g < base) : Es (w.setCell ⟨g, o, none⟩ u) base v l := by
  obtain ⟨h1, h2⟩ := h.own
  refine ⟨h1, ?_⟩
  rcases h2 with h2 | ⟨g', cap, cur, h3, h4, h5, h6⟩
  · exact .inl h2
  · exact .inr ⟨g', cap, cur, h3, h4, by rw [Below.heap_setCell _ _ _ _ (show g' ≠ g by omega)]; exact h5, h6⟩
theorem Es.nil (w : World) (base : Nat) : Es w base (.slice none 0 0) [] := ⟨World.ownsRow_nil _ _ _ _⟩
theorem Es.next {w : World} {base n cap gg : Nat} {es fs : List E} {a b c : Int} (hf : fs = es ++ [(a, b, c)]) (hn : n = es.length) (h : w.ownsRow base 50 3 (.slice (some ⟨gg, 0, none⟩) (n + 1) cap) (n + 1) (flat3 es ++ [.int .i64 a, .int .i64 b, .int .i64 c])) : Es w base (.slice (some ⟨gg, 0, none⟩) (n + 1) cap) fs := by
  subst hf hn
  refine ⟨?_⟩
  rw [flat3_append, List.length_append]
  exact h
theorem Es.sl {w : World} {base : Nat} {v : Value} {es : List E} (h : Es w base v es) : SlE w v es := by
  rcases h.own.2 with ⟨rfl, h0⟩ | ⟨g, cap, cur, rfl, _, h1, h2, h3, h4, h5⟩
  · exact .no _ _ rfl (List.length_eq_zero_iff.1 h0)
  · refine .row g 0 cap rfl (fun i hi => ?_)
    obtain ⟨f1, f2, f3⟩ := flat3_get es i hi
    have k1 : cur[i * 3]? = some (.int .i64 (at3 es i).1) := by
      rw [← f1, ← h5, List.getElem?_take_of_lt (by omega), Array.getElem?_toList]
    have k2 : cur[i * 3 + 1]? = some (.int .i64 (at3 es i).2.1) := by
      rw [← f2, ← h5, List.getElem?_take_of_lt (by omega), Array.getElem?_toList]
    have k3 : cur[i * 3 + 2]? = some (.int .i64 (at3 es i).2.2) := by
      rw [← f3, ← h5, List.getElem?_take_of_lt (by omega), Array.getElem?_toList]
    rw [Nat.zero_add]
    simp [World.cell?, h1, k1, k2, k3]
theorem info47 : (Try.prog.info? 50).map (fun i => (i.zero, i.size, i.bytes)) = some (some (.agg #[.int .i64 0, .int .i64 0, .int .i64 0]), 3, 24) := by kernel_rfl
theorem info47_parts : ∃ i, Try.prog.info? 50 = some i ∧ i.zero = some (.agg #[.int .i64 0, .int .i64 0, .int .i64 0]) ∧ i.size = 3 ∧ i.bytes = 24 := by
  obtain ⟨i, hi, hh⟩ := Option.map_eq_some_iff.1 info47
  simp only [Prod.mk.injEq] at hh
  exact ⟨i, hi, hh.1, hh.2.1, hh.2.2⟩
/-- A box of a net that stands by itself. -/
structure Bn (w : World) (k : Nat) (a b : Value) : Prop where
  at_ : w.heap[k]? = some (.cells #[a, b] 35 (0, 0))
theorem Bn.lt {w : World} {k : Nat} {a b : Value} (h : Bn w k a b) : k < w.heap.size := by
  rcases Nat.lt_or_ge k w.heap.size with hlt | hge
  · exact hlt
  · have := h.at_; rw [Array.getElem?_eq_none hge] at this; cases this
theorem Bn.cell {w : World} {k : Nat} {a b : Value} (h : Bn w k a b) : w.cell? ⟨k, 0, none⟩ = some a ∧ w.cell? ⟨k, 1, none⟩ = some b := by
  have := h.at_; simp [World.cell?, this]
theorem Bn.frozen {w : World} {k : Nat} {a b : Value} (h : Bn w k a b) : w.frozen? ⟨k, 0, none⟩ = false ∧ w.frozen? ⟨k, 1, none⟩ = false := by
  have := h.at_; simp [World.frozen?, this]
theorem Bn.frame {w w' : World} {k : Nat} {a b : Value} (h : Bn w k a b) (hb : w'.heap[k]? = w.heap[k]?) : Bn w' k a b := ⟨hb.trans h.at_⟩
theorem Bn.below {w w' : World} {k : Nat} {a b : Value} (h : Bn w k a b) (hb : Below w.heap.size w w') : Bn w' k a b := h.frame (hb.block _ h.lt)
theorem Bn.put1 {w : World} {k : Nat} {a b : Value} (h : Bn w k a b) (v : Value) : Bn (w.setCell ⟨k, 1, none⟩ v) k a v := ⟨(heap_setCell_same _ _ _ _ _ _ _ h.at_).trans rfl⟩
theorem Bn.other {w : World} {k g o : Nat} {a b v : Value} (h : Bn w k a b) (hne : k ≠ g) : Bn (w.setCell ⟨g, o, none⟩ v) k a b := h.frame (Below.heap_setCell _ _ _ _ hne)
theorem bn_new (w : World) (a b : Value) : Bn (w.alloc (.cells #[a, b] 35)) w.heap.size a b := ⟨heap_alloc_new w _⟩
theorem turn_next {es : List E} {k : Nat} (h : k < es.length) : (es.take (k + 1)).map trn = (es.take k).map trn ++ [trn (at3 es k)] := by
  rw [List.take_add_one, List.getElem?_eq_getElem h, List.map_append]
  have : at3 es k = es[k] := by unfold at3; simp [h]
  rw [this]; rfl
end Go.Proofs.Ytdgihpegdcoilaa
