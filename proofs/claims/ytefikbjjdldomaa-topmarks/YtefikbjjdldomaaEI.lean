/-
  Tables that grow: rows of rows of numbers in one box of two; the same tables.
-/
import Derived.Test.YtefikbjjdldomaaEG
import Derived.Test.YtefikbjjdldomaaDN
import Derived.Test.YtefikbjjdldomaaND
import Derived.Test.YtefikbjjdldomaaRV
import Derived.Test.YtefikbjjdldomaaIE
namespace Go.Proofs.Ytefikbjjdldomaa
open Go.RowKit
open Nm Wm Dm

theorem own_val {w : World} {base k : Nat} {v : Value} {us : List Value} (h : w.ownsRow base 25 1 v k us) : ∃ a c, v = .slice a k c := by
  rcases h.2 with ⟨rfl, rfl⟩ | ⟨g, cap, cur, rfl, _⟩
  · exact ⟨_, _, rfl⟩
  · exact ⟨_, _, rfl⟩
theorem ts_ne {w : World} {base k b cap : Nat} {v : Value} {us : List Value} {l : List Int} (h : w.ownsRow base 25 1 v k us) (hr : Rw w b cap l) : v.ownBlock ≠ some b := by
  intro e
  rcases h.2 with ⟨rfl, rfl⟩ | ⟨g, cp, cur, rfl, _, h1, _⟩
  · cases e
  · simp only [Value.ownBlock, Option.some.injEq] at e
    subst e
    obtain ⟨c2, h2, _⟩ := hr.at_
    rw [h2] at h1
    simp at h1
theorem info25_parts : ∃ i, Try.prog.info? 25 = some i ∧ i.zero = some (.slice none 0 0) ∧ i.size = 1 ∧ i.bytes = 24 := by
  have h : (Try.prog.info? 25).map (fun i => (i.zero, i.size, i.bytes)) = some (some (.slice none 0 0), 1, 24) := by kernel_rfl
  cases e : Try.prog.info? 25 with
  | none => rw [e] at h; cases h
  | some i =>
    rw [e] at h
    simp only [Option.map_some, Option.some.injEq, Prod.mk.injEq] at h
    exact ⟨i, rfl, h.1, h.2.1, h.2.2⟩

/-- A table that grows. -/
structure Tg (w : World) (base : Nat) (v : Value) (rows : List (List Int)) (us : List Value) : Prop where
  own : w.ownsRow base 25 1 v rows.length us
  row : ∀ i, i < rows.length → ∃ b cap, us[i]? = some (.slice (some ⟨b, 0, none⟩) (rows.getD i []).length cap) ∧ Rw w b cap (rows.getD i [])
theorem Tg.nil (w : World) (base : Nat) : Tg w base (.slice none 0 0) [] [] := ⟨World.ownsRow_nil _ _ _ _, fun i hi => absurd hi (by simp)⟩
theorem Tg.below {w w' : World} {base : Nat} {v : Value} {rows : List (List Int)} {us : List Value} (h : Tg w base v rows us) (hb : Below w.heap.size w w') : Tg w' base v rows us := by
  refine ⟨owns_below h.own hb, fun i hi => ?_⟩
  obtain ⟨b, cap, h1, h2⟩ := h.row i hi
  exact ⟨b, cap, h1, h2.below hb⟩
theorem Tg.val {w : World} {base : Nat} {v : Value} {rows : List (List Int)} {us : List Value} (h : Tg w base v rows us) : ∃ a c, v = .slice a rows.length c := own_val h.own
/-- A table that has grown by a row. -/
theorem Tg.next {w w' : World} {base k b n cap g cap' : Nat} {v : Value} {rows rows' : List (List Int)} {l : List Int} {us : List Value} (h : Tg w base v rows us) (hr : Rw w b cap l) (hn : l.length = n) (e : rows' = rows ++ [l]) (hk : rows.length = k)
    (hown : w'.ownsRow base 25 1 (.slice (some ⟨g, 0, none⟩) (k + 1) cap') (k + 1) (us ++ [.slice (some ⟨b, 0, none⟩) n cap])) (hgrow : w.grownBy w' v.ownBlock) :
    Tg w' base (.slice (some ⟨g, 0, none⟩) (k + 1) cap') rows' (us ++ [.slice (some ⟨b, 0, none⟩) n cap]) := by
  subst e hk hn
  have hl : us.length = rows.length := by have := h.own.1; omega
  refine ⟨by rw [List.length_append]; exact hown, fun i hi => ?_⟩
  rw [List.length_append, List.length_singleton] at hi
  by_cases e : i = rows.length
  · subst e
    have hx := ts_ne h.own hr
    refine ⟨b, cap, ?_, ?_⟩
    · rw [List.getElem?_append_right (by omega), hl]; simp [List.getD_eq_getElem?_getD]
    · have e2 : (rows ++ [l]).getD rows.length [] = l := by simp [List.getD_eq_getElem?_getD]
      rw [e2]
      exact hr.frame (hgrow.block _ hr.lt (fun e => hx e.symm))
  · obtain ⟨x, cp, h1, h2⟩ := h.row i (by omega)
    have hx := ts_ne h.own h2
    have e2 : (rows ++ [l]).getD i [] = rows.getD i [] := by simp [List.getD_eq_getElem?_getD, List.getElem?_append_left (show i < rows.length by omega)]
    rw [e2]
    exact ⟨x, cp, by rw [List.getElem?_append_left (by omega)]; exact h1, h2.frame (hgrow.block _ h2.lt (fun e => hx e.symm))⟩
/-- .. and the other table beside it. -/
theorem Tg.keep {w w' : World} {base base' n : Nat} {v u : Value} {rows : List (List Int)} {us xs : List Value} (h : Tg w base v rows us) (hu : w.ownsRow base' 25 1 u n xs) (hgrow : w.grownBy w' u.ownBlock) (hne : ∀ g, v.ownBlock = some g → u.ownBlock ≠ some g) : Tg w' base v rows us := by
  refine ⟨?_, fun i hi => ?_⟩
  · obtain ⟨h1, h2⟩ := h.own
    refine ⟨h1, ?_⟩
    rcases h2 with h2 | ⟨g, cap, cur, rfl, h4, h5, h6⟩
    · exact .inl h2
    · have hlt : g < w.heap.size := by
        rcases Nat.lt_or_ge g w.heap.size with hlt | hge
        · exact hlt
        · rw [Array.getElem?_eq_none hge] at h5; cases h5
      exact .inr ⟨g, cap, cur, rfl, h4, (hgrow.block _ hlt (fun e => hne g rfl e.symm)).trans h5, h6⟩
  · obtain ⟨x, cp, h1, h2⟩ := h.row i hi
    exact ⟨x, cp, h1, h2.frame (hgrow.block _ h2.lt (fun e => ts_ne hu h2 e.symm))⟩
theorem Tg.other {w : World} {base g o t : Nat} {cur : Array Value} {fr : Nat × Nat} {v x : Value} {rows : List (List Int)} {us : List Value} (h : Tg w base v rows us) (hg : g < base) (hc : w.heap[g]? = some (.cells cur t fr)) (ht : t ≠ 3) : Tg (w.setCell ⟨g, o, none⟩ x) base v rows us := by
  refine ⟨?_, fun i hi => ?_⟩
  · obtain ⟨h1, h2⟩ := h.own
    refine ⟨h1, ?_⟩
    rcases h2 with h2 | ⟨g', cap, cur, rfl, h4, h5, h6⟩
    · exact .inl h2
    · exact .inr ⟨g', cap, cur, rfl, h4, by rw [Below.heap_setCell _ _ _ _ (show g' ≠ g by omega)]; exact h5, h6⟩
  · obtain ⟨b, cap, h1, h2⟩ := h.row i hi
    refine ⟨b, cap, h1, h2.frame (Below.heap_setCell _ _ _ _ (fun e => ?_))⟩
    subst e
    obtain ⟨c2, h3, _⟩ := h2.at_
    rw [h3] at hc
    simp at hc
    exact ht hc.2.1.symm
theorem Tg.slt {w : World} {base : Nat} {v : Value} {rows : List (List Int)} {us : List Value} (h : Tg w base v rows us) : SlT w v rows := by
  rcases h.own.2 with ⟨rfl, h0⟩ | ⟨g, cap, cur, rfl, _, h1, h2, _, h4, h5⟩
  · exact SlT.no none 0 rfl (List.length_eq_zero_iff.1 h0)
  · refine ⟨.inr ⟨g, 0, cap, rfl, fun i hi => ?_⟩⟩
    obtain ⟨b, cp, k1, k2⟩ := h.row i hi
    refine ⟨_, ?_, (k2.is (base := b) (Nat.le_refl _)).sl⟩
    have : cur[i]? = us[i]? := by rw [← h5, List.getElem?_take_of_lt (by omega), Array.getElem?_toList]
    simp [World.cell?, h1, this, k1]

/-- A box of two slices. -/
structure Bt (w : World) (k : Nat) (a b : Value) : Prop where
  at_ : w.heap[k]? = some (.cells #[a, b] 76 (0, 0))
theorem Bt.lt {w : World} {k : Nat} {a b : Value} (h : Bt w k a b) : k < w.heap.size := by
  rcases Nat.lt_or_ge k w.heap.size with hlt | hge
  · exact hlt
  · have := h.at_; rw [Array.getElem?_eq_none hge] at this; cases this
theorem Bt.cell {w : World} {k : Nat} {a b : Value} (h : Bt w k a b) : w.cell? ⟨k, 0, none⟩ = some a ∧ w.cell? ⟨k, 1, none⟩ = some b := by
  simp [World.cell?, h.at_]
theorem Bt.frozen {w : World} {k : Nat} {a b : Value} (h : Bt w k a b) : w.frozen? ⟨k, 0, none⟩ = false ∧ w.frozen? ⟨k, 1, none⟩ = false := by
  simp [World.frozen?, h.at_]
theorem Bt.frame {w w' : World} {k : Nat} {a b : Value} (h : Bt w k a b) (hb : w'.heap[k]? = w.heap[k]?) : Bt w' k a b := ⟨hb.trans h.at_⟩
theorem Bt.below {w w' : World} {k : Nat} {a b : Value} (h : Bt w k a b) (hb : Below w.heap.size w w') : Bt w' k a b := h.frame (hb.block _ h.lt)
theorem Bt.put0 {w : World} {k : Nat} {a b : Value} (h : Bt w k a b) (v : Value) : Bt (w.setCell ⟨k, 0, none⟩ v) k v b := ⟨(heap_setCell_same _ _ _ _ _ _ _ h.at_).trans rfl⟩
theorem Bt.put1 {w : World} {k : Nat} {a b : Value} (h : Bt w k a b) (v : Value) : Bt (w.setCell ⟨k, 1, none⟩ v) k a v := ⟨(heap_setCell_same _ _ _ _ _ _ _ h.at_).trans rfl⟩
theorem bt_new (w : World) (a b : Value) : Bt (w.alloc (.cells #[a, b] 76)) w.heap.size a b := ⟨heap_alloc_new w _⟩

/-- What it costs from a place to another. -/
def cst (N : Nat) (es : List E) (s v : Nat) : Int := spr es (Dm.start s) (N - 1) v
theorem cst_is {N s : Nat} {es : List E} {d : Nat → Int} (hp : Pn N es) (h : IsD N es s d) (hs : s < N) : IsD N es s (cst N es s) := h.congr hp hs fun v hv => by unfold cst; exact (spr_is hp h v hv).symm
theorem Ur.toCst {w : World} {G N s : Nat} {es : List E} {d : Nat → Int} (h : Ur w G N d) (hp : Pn N es) (hd : IsD N es s d) : Ur w G N (cst N es s) := h.congr fun v hv => by unfold cst; exact (spr_is hp hd v hv).symm
/-- The rows of costs from marks, and to them. -/
def frw (N : Nat) (es : List E) (ps : List Int) : List (List Int) := ps.map fun m => lst N (cst N es m.toNat)
def trw (N : Nat) (es : List E) (ps : List Int) : List (List Int) := ps.map fun m => lst N (fun v => cst N es v m.toNat)
theorem frw_length (N : Nat) (es : List E) (ps : List Int) : (frw N es ps).length = ps.length := by simp [frw]
theorem trw_length (N : Nat) (es : List E) (ps : List Int) : (trw N es ps).length = ps.length := by simp [trw]
theorem frw_at {N : Nat} {es : List E} {ps : List Int} {k : Nat} (h : k < ps.length) : (frw N es ps).getD k [] = lst N (cst N es (ps.getD k 0).toNat) := by simp [frw, List.getD_eq_getElem?_getD, h]
theorem trw_at {N : Nat} {es : List E} {ps : List Int} {k : Nat} (h : k < ps.length) : (trw N es ps).getD k [] = lst N (fun v => cst N es v (ps.getD k 0).toNat) := by simp [trw, List.getD_eq_getElem?_getD, h]
theorem frw_next {N : Nat} {es : List E} {ps : List Int} {k : Nat} (h : k < ps.length) : frw N es (ps.take (k + 1)) = frw N es (ps.take k) ++ [lst N (cst N es (ps.getD k 0).toNat)] := by
  unfold frw; rw [List.take_add_one, List.map_append, List.getElem?_eq_getElem h, List.getD_eq_getElem?_getD, List.getElem?_eq_getElem h]; rfl
theorem trw_next {N : Nat} {es : List E} {ps : List Int} {k : Nat} (h : k < ps.length) : trw N es (ps.take (k + 1)) = trw N es (ps.take k) ++ [lst N (fun v => cst N es v (ps.getD k 0).toNat)] := by
  unfold trw; rw [List.take_add_one, List.map_append, List.getElem?_eq_getElem h, List.getD_eq_getElem?_getD, List.getElem?_eq_getElem h]; rfl

end Go.Proofs.Ytefikbjjdldomaa
