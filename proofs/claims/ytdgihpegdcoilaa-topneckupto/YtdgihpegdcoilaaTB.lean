/-
  Tables: rows of rows of numbers, as they are read, as they are written and as they grow; the same tables.
-/
import Derived.Test.YtdgihpegdcoilaaRV
import Derived.Test.YtdgihpegdcoilaaRP
import Derived.Test.YtdgihpegdcoilaaIE
namespace Go.Proofs.Ytdgihpegdcoilaa
open Go.RowKit

/-- A table as it is read. -/
structure SlT (w : World) (v : Value) (rows : List (List Int)) : Prop where
  is : (∃ a c, v = .slice a 0 c ∧ rows = []) ∨ ∃ b off cap, v = .slice (some ⟨b, off, none⟩) rows.length cap ∧ ∀ i, i < rows.length → ∃ a n c, w.cell? ⟨b, off + i, none⟩ = some (.slice a n c) ∧ SlI w (.slice a n c) (rows.getD i [])
theorem SlT.no {w : World} {v : Value} {rows : List (List Int)} (a : Option Addr) (c : Nat) (h : v = .slice a 0 c) (e : rows = []) : SlT w v rows := ⟨.inl ⟨a, c, h, e⟩⟩
theorem SlT.val {w : World} {v : Value} {rows : List (List Int)} (h : SlT w v rows) : ∃ a c, v = .slice a rows.length c := by
  rcases h.is with ⟨a, c, rfl, rfl⟩ | ⟨b, off, cap, rfl, _⟩
  · exact ⟨a, c, rfl⟩
  · exact ⟨_, _, rfl⟩
theorem SlT.below {w w' : World} {v : Value} {rows : List (List Int)} (h : SlT w v rows) (hb : Below w.heap.size w w') : SlT w' v rows := by
  rcases h.is with h | ⟨b, off, cap, e, h⟩
  · exact ⟨.inl h⟩
  · refine ⟨.inr ⟨b, off, cap, e, fun i hi => ?_⟩⟩
    obtain ⟨a, n, c, h1, h2⟩ := h i hi
    exact ⟨a, n, c, kept hb h1, h2.below hb⟩
theorem SlT.some' {w : World} {v : Value} {rows : List (List Int)} (h : SlT w v rows) (hl : 0 < rows.length) : ∃ b off cap, v = .slice (some ⟨b, off, none⟩) rows.length cap ∧ ∀ i, i < rows.length → ∃ a n c, w.cell? ⟨b, off + i, none⟩ = some (.slice a n c) ∧ SlI w (.slice a n c) (rows.getD i []) := by
  rcases h.is with ⟨a, c, rfl, rfl⟩ | h
  · exact absurd hl (by simp)
  · exact h

/-- The table of a function. -/
def tbl (N : Nat) (T : Nat → Nat → Int) : List (List Int) := (List.range N).map (fun i => lst N (T i))
theorem tbl_length (N : Nat) (T : Nat → Nat → Int) : (tbl N T).length = N := by simp [tbl]
theorem tbl_at {N : Nat} {T : Nat → Nat → Int} {i : Nat} (h : i < N) : (tbl N T).getD i [] = lst N (T i) := by simp [tbl, List.getD_eq_getElem?_getD, h]

/-- A table that is written row by row. -/
structure Tr (w : World) (R N k : Nat) (T : Nat → Nat → Int) : Prop where
  at_ : ∃ cur : Array Value, w.heap[R]? = some (.cells cur 23 (0, 0)) ∧ cur.size = N ∧ (∀ i, i < N → ∃ u, cur[i]? = some u) ∧ ∀ i, i < k → ∃ G, cur[i]? = some (.slice (some ⟨G, 0, none⟩) N N) ∧ G ≠ R ∧ Ur w G N (T i)
theorem Tr.lt {w : World} {R N k : Nat} {T : Nat → Nat → Int} (h : Tr w R N k T) : R < w.heap.size := by
  obtain ⟨cur, h1, _⟩ := h.at_
  rcases Nat.lt_or_ge R w.heap.size with hlt | hge
  · exact hlt
  · rw [Array.getElem?_eq_none hge] at h1; cases h1
theorem Tr.below {w w' : World} {R N k : Nat} {T : Nat → Nat → Int} (h : Tr w R N k T) (hb : Below w.heap.size w w') : Tr w' R N k T := by
  have hlt := h.lt
  obtain ⟨cur, h1, h2, h3, h4⟩ := h.at_
  refine ⟨cur, (hb.block _ hlt).trans h1, h2, h3, fun i hi => ?_⟩
  obtain ⟨G, g1, g2, g3⟩ := h4 i hi
  exact ⟨G, g1, g2, g3.below hb⟩
theorem Tr.cell {w : World} {R N k : Nat} {T : Nat → Nat → Int} (h : Tr w R N k T) (i : Nat) (hi : i < N) : (∃ u, w.cell? ⟨R, i, none⟩ = some u) ∧ w.frozen? ⟨R, i, none⟩ = false := by
  obtain ⟨cur, h1, h2, h3, h4⟩ := h.at_
  obtain ⟨u, hu⟩ := h3 i hi
  refine ⟨⟨u, ?_⟩, ?_⟩
  · simp [World.cell?, h1, hu]
  · simp [World.frozen?, h1]
theorem Tr.put {w : World} {R N k G : Nat} {T : Nat → Nat → Int} (h : Tr w R N k T) (hk : k < N) (hu : Ur w G N (T k)) (hne : G ≠ R) : Tr (w.setCell ⟨R, k, none⟩ (.slice (some ⟨G, 0, none⟩) N N)) R N (k + 1) T := by
  obtain ⟨cur, h1, h2, h3, h4⟩ := h.at_
  refine ⟨_, heap_setCell_same _ _ _ _ _ _ _ h1, by simpa using h2, fun i hi => ?_, fun i hi => ?_⟩
  · by_cases e : i = k
    · subst e; exact ⟨_, Array.getElem?_setIfInBounds_self_of_lt (by omega)⟩
    · rw [Array.getElem?_setIfInBounds_ne (by omega)]; exact h3 i hi
  · by_cases e : i = k
    · subst e
      exact ⟨G, Array.getElem?_setIfInBounds_self_of_lt (by omega), hne, hu.frame (Below.heap_setCell _ _ _ _ hne)⟩
    · obtain ⟨G', g1, g2, g3⟩ := h4 i (by omega)
      exact ⟨G', by rw [Array.getElem?_setIfInBounds_ne (by omega)]; exact g1, g2, g3.frame (Below.heap_setCell _ _ _ _ g2)⟩
theorem Tr.slt {w : World} {R N : Nat} {T : Nat → Nat → Int} (h : Tr w R N N T) : SlT w (.slice (some ⟨R, 0, none⟩) N N) (tbl N T) := by
  obtain ⟨cur, h1, h2, h3, h4⟩ := h.at_
  refine ⟨.inr ⟨R, 0, N, by rw [tbl_length], fun i hi => ?_⟩⟩
  rw [tbl_length] at hi
  obtain ⟨G, g1, g2, g3⟩ := h4 i hi
  refine ⟨_, _, _, ?_, by rw [tbl_at hi]; exact g3.sl⟩
  simp [World.cell?, h1, g1]
theorem info25_parts : ∃ i, Try.prog.info? 23 = some i ∧ i.zero = some (.slice none 0 0) ∧ i.size = 1 ∧ i.bytes = 24 := by
  have h : (Try.prog.info? 23).map (fun i => (i.zero, i.size, i.bytes)) = some (some (.slice none 0 0), 1, 24) := by kernel_rfl
  cases e : Try.prog.info? 23 with
  | none => rw [e] at h; cases h
  | some i =>
    rw [e] at h
    simp only [Option.map_some, Option.some.injEq, Prod.mk.injEq] at h
    exact ⟨i, rfl, h.1, h.2.1, h.2.2⟩
theorem made_tbl (n : Nat) (hn : n ≤ 64) (w : World) : (Instr.makeSlice 56 (.int .i64 n) (.int .i64 n)).run Try.prog w = .ok (.slice (some ⟨w.heap.size, 0, none⟩) n n) (w.alloc (.cells (Array.ofFn (n := n) fun _ => .slice none 0 0) 23)) := by
  obtain ⟨i, hi, hz, hs, hb⟩ := info25_parts
  have := run_makeSlice (P := Try.prog) w 56 23 i (.slice none 0 0) Try.underlying56 hi hz .i64 .i64 n n (by omega) (by omega) (by rw [hs]; omega) (by rw [hb]; omega) (by omega)
  rw [hs] at this
  simp only [Int.toNat_natCast, Nat.mul_one] at this
  rw [this]
  have e : madeCells (Value.slice none 0 0).cells n = Array.ofFn (n := n) fun _ => Value.slice none 0 0 := by
    apply Array.ext
    · simp [madeCells]
    · intro i h1 h2
      simp [madeCells, Nat.mod_one, Value.cells]
  rw [e]
theorem tr_made (w : World) (n : Nat) (T : Nat → Nat → Int) : Tr (w.alloc (.cells (Array.ofFn (n := n) fun _ => .slice none 0 0) 23)) w.heap.size n 0 T := by
  refine ⟨_, heap_alloc_new w _, by simp, fun i hi => ⟨.slice none 0 0, by simp [hi]⟩, fun i hi => absurd hi (by omega)⟩

/-- A table that grows. -/
structure Ts (w : World) (base : Nat) (v : Value) (N k : Nat) (T : Nat → Nat → Int) (us : List Value) : Prop where
  own : w.ownsRow base 23 1 v k us
  rows : ∀ i, i < k → ∃ b cap, us[i]? = some (.slice (some ⟨b, 0, none⟩) N cap) ∧ v.ownBlock ≠ some b ∧ Rw w b cap (lst N (T i))
theorem Ts.below {w w' : World} {base : Nat} {v : Value} {N k : Nat} {T : Nat → Nat → Int} {us : List Value} (h : Ts w base v N k T us) (hb : Below w.heap.size w w') : Ts w' base v N k T us := by
  refine ⟨owns_below h.own hb, fun i hi => ?_⟩
  obtain ⟨b, cap, h1, h2, h3⟩ := h.rows i hi
  exact ⟨b, cap, h1, h2, h3.below hb⟩
theorem Ts.next {w w3 w' : World} {base N k g cap' b cap H : Nat} {v : Value} {T : Nat → Nat → Int} {us : List Value} (h : Ts w base v N k T us) (hb : Below w.heap.size w w3) (hr : Rw w b cap (lst N (T k))) (hne : v.ownBlock ≠ some b) (hown : w'.ownsRow base 23 1 (.slice (some ⟨g, 0, none⟩) (k + 1) cap') (k + 1) (us ++ [.slice (some ⟨b, 0, none⟩) N cap])) (hgrow : w3.grownBy w' v.ownBlock) (hH : w3.heap.size = H) (hat : v.ownBlock = some g ∨ g = H) :
    Ts w' base (.slice (some ⟨g, 0, none⟩) (k + 1) cap') N (k + 1) T (us ++ [.slice (some ⟨b, 0, none⟩) N cap]) := by
  have hl : us.length = k := by have := h.own.1; omega
  have key : ∀ x cp l, Rw w x cp l → v.ownBlock ≠ some x → Value.ownBlock (.slice (some ⟨g, 0, none⟩) (k + 1) cap') ≠ some x ∧ Rw w' x cp l := by
    intro x cp l hx hxn
    have hlt := hx.lt
    refine ⟨fun e => ?_, hx.frame ((hgrow.block x (by have := hb.size; omega) (fun e => hxn e.symm)).trans (hb.block _ hlt))⟩
    simp only [Value.ownBlock, Option.some.injEq] at e
    rcases hat with h1 | h1
    · rw [e] at h1; exact hxn h1
    · have := hb.size; omega
  refine ⟨hown, fun i hi => ?_⟩
  by_cases e : i = k
  · subst e
    obtain ⟨k1, k2⟩ := key _ _ _ hr hne
    exact ⟨b, cap, by rw [List.getElem?_append_right (by omega), hl]; simp, k1, k2⟩
  · obtain ⟨x, cp, h1, h2, h3⟩ := h.rows i (by omega)
    obtain ⟨k1, k2⟩ := key _ _ _ h3 h2
    exact ⟨x, cp, by rw [List.getElem?_append_left (by omega)]; exact h1, k1, k2⟩
theorem Ts.slt {w : World} {base : Nat} {v : Value} {N : Nat} {T : Nat → Nat → Int} {us : List Value} (h : Ts w base v N N T us) : SlT w v (tbl N T) := by
  rcases h.own.2 with ⟨rfl, h0⟩ | ⟨g, cap, cur, rfl, _, h1, h2, _, h4, h5⟩
  · refine SlT.no none 0 rfl ?_
    have := tbl_length N T
    exact List.length_eq_zero_iff.1 (by omega)
  · refine ⟨.inr ⟨g, 0, cap, by rw [tbl_length], fun i hi => ?_⟩⟩
    rw [tbl_length] at hi
    obtain ⟨b, cp, k1, k2, k3⟩ := h.rows i hi
    refine ⟨_, _, _, ?_, by rw [tbl_at hi]; have := (k3.is (base := b) (Nat.le_refl _)).sl; rw [lst_length] at this; exact this⟩
    have : cur[i]? = us[i]? := by rw [← h5, List.getElem?_take_of_lt (by omega), Array.getElem?_toList]
    simp [World.cell?, h1, this, k1]

end Go.Proofs.Ytdgihpegdcoilaa
