/-
  Rows and tables of whatever kind, written in place.
-/
import Derived.Test.YtkklgnfimkojlaaFA
import Derived.Test.YtkklgnfimkojlaaTB
namespace Go.Proofs.Ytkklgnfimkojlaa
open Go.RowKit
open Nm Wm Dm Bm Fm Fl

section
variable {α : Type}
/-- Block g holds the n values d. -/
structure Uv (t : TypeId) (enc : α → Value) (w : World) (g n : Nat) (d : Nat → α) : Prop where
  block : w.heap[g]? = some (.cells (Array.ofFn (n := n) fun i => enc (d i)) t (0, 0))
theorem Uv.cell {t : TypeId} {enc : α → Value} {w : World} {g n : Nat} {d : Nat → α} (h : Uv t enc w g n d) (i : Nat) (hi : i < n) : w.cell? ⟨g, i, none⟩ = some (enc (d i)) ∧ w.frozen? ⟨g, i, none⟩ = false := by
  simp [World.cell?, World.frozen?, h.block, hi]
theorem Uv.lt {t : TypeId} {enc : α → Value} {w : World} {g n : Nat} {d : Nat → α} (h : Uv t enc w g n d) : g < w.heap.size := by
  rcases Nat.lt_or_ge g w.heap.size with hlt | hge
  · exact hlt
  · have := h.block; rw [Array.getElem?_eq_none hge] at this; cases this
theorem Uv.frame {t : TypeId} {enc : α → Value} {w w' : World} {g n : Nat} {d : Nat → α} (h : Uv t enc w g n d) (hb : w'.heap[g]? = w.heap[g]?) : Uv t enc w' g n d := ⟨hb.trans h.block⟩
theorem Uv.below {t : TypeId} {enc : α → Value} {w w' : World} {g n : Nat} {d : Nat → α} (h : Uv t enc w g n d) (hb : Below w.heap.size w w') : Uv t enc w' g n d := h.frame (hb.block _ h.lt)
theorem Uv.congr {t : TypeId} {enc : α → Value} {w : World} {g n : Nat} {d d' : Nat → α} (h : Uv t enc w g n d) (e : ∀ x, x < n → d x = d' x) : Uv t enc w g n d' := by
  refine ⟨h.block.trans ?_⟩
  congr 2
  apply Array.ext
  · simp
  · intro i h1 h2
    simp at h1 ⊢
    rw [e i h1]
theorem Uv.put {t : TypeId} {enc : α → Value} {w : World} {g n : Nat} {d d' : Nat → α} (h : Uv t enc w g n d) (i : Nat) (x : α) (h1 : d' i = x) (h2 : ∀ j, j < n → j ≠ i → d' j = d j) : Uv t enc (w.setCell ⟨g, i, none⟩ (enc x)) g n d' := by
  refine ⟨(heap_setCell_same _ _ _ _ _ _ _ h.block).trans ?_⟩
  congr 2
  apply Array.ext_getElem?
  intro j
  rw [Array.getElem?_setIfInBounds]
  by_cases hj : j < n
  · by_cases e : i = j
    · subst e; simp [hj, h1]
    · simp [hj, e, h2 j hj (fun e' => e e'.symm)]
  · by_cases e : i = j
    · subst e; simp [hj]
    · simp [hj, e]

/-- A table in block R whose first k rows lie in the blocks Gs. -/
structure Tv (tr te : TypeId) (enc : α → Value) (w : World) (R N k : Nat) (Gs : Nat → Nat) (T : Nat → Nat → α) : Prop where
  at_ : ∃ cur : Array Value, w.heap[R]? = some (.cells cur tr (0, 0)) ∧ cur.size = N ∧ ∀ i, i < k → cur[i]? = some (.slice (some ⟨Gs i, 0, none⟩) N N)
  off : ∀ i, i < k → Gs i ≠ R
  row : ∀ i, i < k → Uv te enc w (Gs i) N (T i)
  inj : ∀ i j, i < k → j < k → i ≠ j → Gs i ≠ Gs j
theorem Tv.lt {tr te : TypeId} {enc : α → Value} {w : World} {R N k : Nat} {Gs : Nat → Nat} {T : Nat → Nat → α} (h : Tv tr te enc w R N k Gs T) : R < w.heap.size := by
  obtain ⟨cur, h1, _⟩ := h.at_
  rcases Nat.lt_or_ge R w.heap.size with hlt | hge
  · exact hlt
  · rw [Array.getElem?_eq_none hge] at h1; cases h1
theorem Tv.below {tr te : TypeId} {enc : α → Value} {w w' : World} {R N k : Nat} {Gs : Nat → Nat} {T : Nat → Nat → α} (h : Tv tr te enc w R N k Gs T) (hb : Below w.heap.size w w') : Tv tr te enc w' R N k Gs T := by
  have hlt := h.lt
  obtain ⟨cur, h1, h2, h3⟩ := h.at_
  exact ⟨⟨cur, (hb.block _ hlt).trans h1, h2, h3⟩, h.off, fun i hi => (h.row i hi).below hb, h.inj⟩
theorem Tv.head {tr te : TypeId} {enc : α → Value} {w : World} {R N k : Nat} {Gs : Nat → Nat} {T : Nat → Nat → α} (h : Tv tr te enc w R N k Gs T) (i : Nat) (hi : i < k) : w.cell? ⟨R, i, none⟩ = some (.slice (some ⟨Gs i, 0, none⟩) N N) := by
  obtain ⟨cur, h1, h2, h3⟩ := h.at_
  simp [World.cell?, h1, h3 i hi]
theorem Tv.slot {tr te : TypeId} {enc : α → Value} {w : World} {R N k : Nat} {Gs : Nat → Nat} {T : Nat → Nat → α} (h : Tv tr te enc w R N k Gs T) (i : Nat) (hi : i < N) : (∃ u, w.cell? ⟨R, i, none⟩ = some u) ∧ w.frozen? ⟨R, i, none⟩ = false := by
  obtain ⟨cur, h1, h2, h3⟩ := h.at_
  subst h2
  refine ⟨⟨cur[i], ?_⟩, ?_⟩
  · simp [World.cell?, h1, hi]
  · simp [World.frozen?, h1]
theorem Tv.put {tr te : TypeId} {enc : α → Value} {w : World} {R N k : Nat} {Gs : Nat → Nat} {T : Nat → Nat → α} (h : Tv tr te enc w R N k Gs T) (i j : Nat) (hi : i < k) (x : α) : Tv tr te enc (w.setCell ⟨Gs i, j, none⟩ (enc x)) R N k Gs (upt T i j x) := by
  obtain ⟨cur, h1, h2, h3⟩ := h.at_
  refine ⟨⟨cur, ?_, h2, h3⟩, h.off, fun a ha => ?_, h.inj⟩
  · rw [Below.heap_setCell _ _ _ _ (fun e => h.off i hi e.symm)]; exact h1
  · by_cases e : a = i
    · subst e
      exact (h.row a ha).put j x (upt_same T a j x) (fun b _ hb => upt_other T x (fun hh => hb hh.2))
    · have := (h.row a ha).frame (w' := w.setCell ⟨Gs i, j, none⟩ (enc x)) (Below.heap_setCell _ _ _ _ (h.inj a i ha hi e))
      exact this.congr (fun b _ => (upt_other T x (fun hh => e hh.1)).symm)
theorem Tv.add {tr te : TypeId} {enc : α → Value} {w : World} {R N k G : Nat} {Gs : Nat → Nat} {T : Nat → Nat → α} (h : Tv tr te enc w R N k Gs T) (hk : k < N) (hu : Uv te enc w G N (T k)) (hne : G ≠ R) (hd : ∀ i, i < k → Gs i ≠ G) :
    Tv tr te enc (w.setCell ⟨R, k, none⟩ (.slice (some ⟨G, 0, none⟩) N N)) R N (k + 1) (fun i => if i = k then G else Gs i) T := by
  obtain ⟨cur, h1, h2, h3⟩ := h.at_
  refine ⟨⟨_, heap_setCell_same _ _ _ _ _ _ _ h1, by simpa using h2, fun i hi => ?_⟩, fun i hi => ?_, fun i hi => ?_, fun i j hi hj hij => ?_⟩
  · by_cases e : i = k
    · subst e; rw [if_pos rfl, Array.getElem?_setIfInBounds_self_of_lt (by omega)]
    · rw [if_neg e, Array.getElem?_setIfInBounds_ne (by omega)]; exact h3 i (by omega)
  · by_cases e : i = k
    · rw [if_pos e]; exact hne
    · rw [if_neg e]; exact h.off i (by omega)
  · by_cases e : i = k
    · rw [if_pos e, e]; exact hu.frame (Below.heap_setCell _ _ _ _ hne)
    · rw [if_neg e]; exact (h.row i (by omega)).frame (Below.heap_setCell _ _ _ _ (h.off i (by omega)))
  · by_cases e : i = k
    · rw [if_pos e, if_neg (by omega)]; exact (hd j (by omega)).symm
    · rw [if_neg e]
      by_cases e2 : j = k
      · rw [if_pos e2]; exact hd i (by omega)
      · rw [if_neg e2]; exact h.inj i j (by omega) (by omega) hij
theorem Tv.congr {tr te : TypeId} {enc : α → Value} {w : World} {R N k : Nat} {Gs : Nat → Nat} {T T' : Nat → Nat → α} (h : Tv tr te enc w R N k Gs T) (e : ∀ i j, i < k → j < N → T i j = T' i j) : Tv tr te enc w R N k Gs T' :=
  ⟨h.at_, h.off, fun i hi => (h.row i hi).congr (fun j hj => e i j hi hj), h.inj⟩
theorem tv_made {tr te : TypeId} (enc : α → Value) (w : World) (n : Nat) (z : Value) (T : Nat → Nat → α) : Tv tr te enc (w.alloc (.cells (Array.ofFn (n := n) fun _ => z) tr)) w.heap.size n 0 (fun _ => 0) T :=
  ⟨⟨_, heap_alloc_new w _, by simp, fun i hi => absurd hi (by omega)⟩, fun i hi => absurd hi (by omega), fun i hi => absurd hi (by omega), fun i j hi => absurd hi (by omega)⟩
end

abbrev enci (z : Int) : Value := .int .i64 z
abbrev encb (b : Bool) : Value := .bool b
abbrev Ti := @Tv Int 25 3 enci
abbrev Tb := @Tv Bool 41 4 encb
theorem Tv.slt {w : World} {R N : Nat} {Gs : Nat → Nat} {T : Nat → Nat → Int} (h : Ti w R N N Gs T) : SlT w (.slice (some ⟨R, 0, none⟩) N N) (tbl N T) := by
  refine ⟨.inr ⟨R, 0, N, by rw [tbl_length], fun i hi => ?_⟩⟩
  rw [tbl_length] at hi
  have hu : Ur w (Gs i) N (T i) := ⟨(h.row i hi).block⟩
  refine ⟨_, _, _, by rw [Nat.zero_add]; exact h.head i hi, by rw [tbl_at hi]; exact hu.sl⟩

/-- What ways are made of, in its box. -/
structure Bm5 (w : World) (B : Nat) (a b c d e : Value) : Prop where
  at_ : w.heap[B]? = some (.cells #[a, b, c, d, e] 66 (0, 0)) ∨ w.heap[B]? = some (.cells #[a, b, c, d, e] 66 (0, 0))
theorem Bm5.cell {w : World} {B : Nat} {a b c d e : Value} (h : Bm5 w B a b c d e) : w.cell? ⟨B, 0, none⟩ = some a ∧ w.cell? ⟨B, 1, none⟩ = some b ∧ w.cell? ⟨B, 2, none⟩ = some c ∧ w.cell? ⟨B, 3, none⟩ = some d ∧ w.cell? ⟨B, 4, none⟩ = some e := by
  rcases h.at_ with h | h <;> simp [World.cell?, h]
theorem Bm5.lt {w : World} {B : Nat} {a b c d e : Value} (h : Bm5 w B a b c d e) : B < w.heap.size := by
  rcases Nat.lt_or_ge B w.heap.size with hlt | hge
  · exact hlt
  · rcases h.at_ with h1 | h1 <;> (rw [Array.getElem?_eq_none hge] at h1; cases h1)
theorem Bm5.below {w w' : World} {B : Nat} {a b c d e : Value} (h : Bm5 w B a b c d e) (hb : Below w.heap.size w w') : Bm5 w' B a b c d e := by
  have hlt := h.lt
  refine ⟨h.at_.imp (fun h1 => ?_) (fun h1 => ?_)⟩ <;> rw [hb.block _ hlt] <;> exact h1
theorem Bm5.frame {w w' : World} {B : Nat} {a b c d e : Value} (h : Bm5 w B a b c d e) (hb : w'.heap[B]? = w.heap[B]?) : Bm5 w' B a b c d e := ⟨h.at_.imp (fun h1 => hb.trans h1) (fun h1 => hb.trans h1)⟩
theorem bm5_i (w : World) (a b c d e : Value) : Bm5 (w.alloc (.cells #[a, b, c, d, e] 66)) w.heap.size a b c d e := ⟨.inl (heap_alloc_new w _)⟩
theorem bm5_b (w : World) (a b c d e : Value) : Bm5 (w.alloc (.cells #[a, b, c, d, e] 66)) w.heap.size a b c d e := ⟨.inr (heap_alloc_new w _)⟩
end Go.Proofs.Ytkklgnfimkojlaa
