/-
  The program's search in memory: its own box, costs, where from, what is looked from, the order, and the heap of what waits.
-/
import Derived.Test.YtefikbjjdldomaaJE
import Derived.Test.YtefikbjjdldomaaJx
import Derived.Test.YtefikbjjdldomaaRP
import Derived.Test.YtefikbjjdldomaaMx
namespace Go.Proofs.Ytefikbjjdldomaa
open Go.RowKit
open Nm Wm Dm
open Jp (T3)

/-- A row of truth values in block g. -/
structure Lr (w : World) (g n : Nat) (d : Nat → Bool) : Prop where
  block : w.heap[g]? = some (.cells (Array.ofFn (n := n) fun i => .bool (d i)) 4 (0, 0))
theorem Lr.cell {w : World} {g n : Nat} {d : Nat → Bool} (h : Lr w g n d) (i : Nat) (hi : i < n) : w.cell? ⟨g, i, none⟩ = some (.bool (d i)) ∧ w.frozen? ⟨g, i, none⟩ = false := by
  simp [World.cell?, World.frozen?, h.block, hi]
theorem Lr.lt {w : World} {g n : Nat} {d : Nat → Bool} (h : Lr w g n d) : g < w.heap.size := by
  rcases Nat.lt_or_ge g w.heap.size with hlt | hge
  · exact hlt
  · have := h.block; rw [Array.getElem?_eq_none hge] at this; cases this
theorem Lr.frame {w w' : World} {g n : Nat} {d : Nat → Bool} (h : Lr w g n d) (hb : w'.heap[g]? = w.heap[g]?) : Lr w' g n d := ⟨hb.trans h.block⟩
theorem Lr.congr {w : World} {g n : Nat} {d d' : Nat → Bool} (h : Lr w g n d) (e : ∀ x, x < n → d x = d' x) : Lr w g n d' := by
  refine ⟨h.block.trans ?_⟩
  congr 2
  apply Array.ext
  · simp
  · intro i h1 h2
    simp at h1 ⊢
    exact e i h1
theorem Lr.put {w : World} {g n : Nat} {d d' : Nat → Bool} (h : Lr w g n d) (i : Nat) (x : Bool) (h1 : d' i = x) (h2 : ∀ j, j < n → j ≠ i → d' j = d j) : Lr (w.setCell ⟨g, i, none⟩ (.bool x)) g n d' := by
  refine ⟨(heap_setCell_same _ _ _ _ _ _ _ h.block).trans ?_⟩
  congr 2
  apply Array.ext_getElem?
  intro j
  rw [Array.getElem?_setIfInBounds]
  by_cases hj : j < n
  · by_cases e : i = j
    · subst e; simp [hj, h1]
    · simp [hj, e, h2 j hj (fun e' => e e'.symm)]
  · by_cases e : i = j
    · subst e; simp [hj]
    · simp [hj, e]
theorem info4 : (Try.prog.info? 4).map (fun i => (i.zero, i.size, i.bytes)) = some (some (.bool false), 1, 1) := by kernel_rfl
theorem made_lr (n : Nat) (hn : n ≤ 64) (w : World) : (Instr.makeSlice 87 (.int .i64 n) (.int .i64 n)).run Try.prog w = .ok (.slice (some ⟨w.heap.size, 0, none⟩) n n) (w.alloc (.cells (Array.ofFn (n := n) fun _ => .bool false) 4)) := by
  obtain ⟨i, hi, hh⟩ := Option.map_eq_some_iff.1 info4
  simp only [Prod.mk.injEq] at hh
  obtain ⟨hz, hs, hb⟩ := hh
  have := run_makeSlice (P := Try.prog) w 87 4 i (.bool false) Try.underlying87 hi hz .i64 .i64 n n (by omega) (by omega) (by rw [hs]; omega) (by rw [hb]; omega) (by omega)
  rw [hs] at this
  simp only [Int.toNat_natCast, Nat.mul_one] at this
  rw [this]
  have e : Array.ofFn (n := n) (fun _ => Value.bool false) = madeCells #[Value.bool false] n := by
    apply Array.ext
    · simp [madeCells]
    · intro i h1 h2
      simp [madeCells, Nat.mod_one]
  rw [e]
  rfl

/-- The blocks of one search. -/
structure Blk where
  P : Nat
  C : Nat
  M : Nat
  L : Nat
  H : Nat
/-- They lie where the search begins, below T, and are apart. -/
structure Blk.Ok (b : Blk) (base T : Nat) : Prop where
  lo : base ≤ b.P ∧ base ≤ b.C ∧ base ≤ b.M ∧ base ≤ b.L ∧ base ≤ b.H
  hi : b.P < T ∧ b.C < T ∧ b.M < T ∧ b.L < T ∧ b.H < T
  ne : (b.P ≠ b.C ∧ b.P ≠ b.M ∧ b.P ≠ b.L ∧ b.P ≠ b.H) ∧ (b.C ≠ b.M ∧ b.C ≠ b.L ∧ b.C ≠ b.H) ∧ (b.M ≠ b.L ∧ b.M ≠ b.H) ∧ b.L ≠ b.H
/-- What never turns: the net, the guesses, the key. -/
structure Fix where
  n : Nat
  ve : Value
  vh : Value
  kn : Nat
  lb : Array Value
def Fix.cells (f : Fix) (b : Blk) (vo : Value) : Array Value :=
  #[.int .i64 f.n, f.ve, f.vh, .func (.func f.kn) #[] f.lb, .pointer (some ⟨b.H, 0, none⟩), .slice (some ⟨b.C, 0, none⟩) f.n f.n, .slice (some ⟨b.M, 0, none⟩) f.n f.n, .slice (some ⟨b.L, 0, none⟩) f.n f.n, vo]
/-- The state: costs c, where from m, what is looked from lk, the order o (in vo), the heap qs (in vq). -/
structure Sr (w : World) (b : Blk) (T : Nat) (f : Fix) (c m : Nat → Int) (lk : Nat → Bool) (o : List Int) (vo : Value) (qs : List T3) (vq : Value) (wr : World) : Prop where
  ok : b.Ok w.heap.size T
  top : T ≤ wr.heap.size
  box : wr.heap[b.P]? = some (.cells (f.cells b vo) 89 (0, 0))
  cost : Ur wr b.C f.n c
  came : Ur wr b.M f.n m
  look : Lr wr b.L f.n lk
  order : Is wr T vo o
  head : wr.heap[b.H]? = some (.cells #[.func (.func 84) #[] #[], vq] 130 (0, 0))
  own : wr.ownsRow T 113 3 vq qs.length (Jw.flat qs)
  apart : ∀ k, vq.ownBlock = some k → vo.ownBlock ≠ some k
  heap : Jp.IsHeap qs
  below : Below w.heap.size w wr
theorem heap_lt' {w : World} {k : Nat} {o : Obj} (h : w.heap[k]? = some o) : k < w.heap.size := by
  rcases Nat.lt_or_ge k w.heap.size with hlt | hge
  · exact hlt
  · rw [Array.getElem?_eq_none hge] at h; cases h
theorem Sr.kept {w : World} {b : Blk} {T : Nat} {f : Fix} {c m : Nat → Int} {lk : Nat → Bool} {o : List Int} {vo : Value} {qs : List T3} {vq : Value} {wr wr' : World} (h : Sr w b T f c m lk o vo qs vq wr) (hb : Below wr.heap.size wr wr') : Sr w b T f c m lk o vo qs vq wr' :=
  ⟨h.ok, Nat.le_trans h.top hb.size, (hb.block _ (heap_lt' h.box)).trans h.box, h.cost.below hb, h.came.below hb, h.look.frame (hb.block _ h.look.lt), h.order.below hb, (hb.block _ (heap_lt' h.head)).trans h.head, owns_below h.own hb, h.apart, h.heap, bthen h.below hb⟩
theorem Sr.cells {w : World} {b : Blk} {T : Nat} {f : Fix} {c m : Nat → Int} {lk : Nat → Bool} {o : List Int} {vo : Value} {qs : List T3} {vq : Value} {wr : World} (h : Sr w b T f c m lk o vo qs vq wr) :
    wr.cell? ⟨b.P, 0, none⟩ = some (.int .i64 f.n) ∧ wr.cell? ⟨b.P, 1, none⟩ = some f.ve ∧ wr.cell? ⟨b.P, 2, none⟩ = some f.vh ∧ wr.cell? ⟨b.P, 3, none⟩ = some (.func (.func f.kn) #[] f.lb) ∧ wr.cell? ⟨b.P, 4, none⟩ = some (.pointer (some ⟨b.H, 0, none⟩)) ∧ wr.cell? ⟨b.P, 5, none⟩ = some (.slice (some ⟨b.C, 0, none⟩) f.n f.n) ∧ wr.cell? ⟨b.P, 6, none⟩ = some (.slice (some ⟨b.M, 0, none⟩) f.n f.n) ∧ wr.cell? ⟨b.P, 7, none⟩ = some (.slice (some ⟨b.L, 0, none⟩) f.n f.n) ∧ wr.cell? ⟨b.P, 8, none⟩ = some vo ∧ wr.frozen? ⟨b.P, 8, none⟩ = false := by
  simp [World.cell?, World.frozen?, h.box, Fix.cells]
theorem owns_far {w : World} {base g o : Nat} {t : TypeId} {size n : Nat} {v u : Value} {xs : List Value} (h : w.ownsRow base t size v n xs) (hg : v.ownBlock ≠ some g) : (w.setCell ⟨g, o, none⟩ u).ownsRow base t size v n xs := by
  obtain ⟨h1, h2⟩ := h
  refine ⟨h1, ?_⟩
  rcases h2 with h2 | ⟨g', cap, cur, h3, h4, h5, h6⟩
  · exact .inl h2
  · subst h3
    exact .inr ⟨g', cap, cur, rfl, h4, by rw [Below.heap_setCell _ _ _ _ (show g' ≠ g from fun e => hg (by simp [Value.ownBlock, e]))]; exact h5, h6⟩
theorem Is.own_lt {w : World} {T : Nat} {v : Value} {l : List Int} (h : Is w T v l) : ∀ g, v.ownBlock = some g → T ≤ g ∧ g < w.heap.size := ownBlock_lt h.own
/-- A cost and where it is from are laid in. -/
theorem Sr.put {w : World} {b : Blk} {T : Nat} {f : Fix} {c m : Nat → Int} {lk : Nat → Bool} {o : List Int} {vo : Value} {qs : List T3} {vq : Value} {wr : World} (h : Sr w b T f c m lk o vo qs vq wr) (y : Nat) (x z : Int) :
    Sr w b T f (upd c y x) (upd m y z) lk o vo qs vq ((wr.setCell ⟨b.C, y, none⟩ (.int .i64 x)).setCell ⟨b.M, y, none⟩ (.int .i64 z)) := by
  obtain ⟨l1, l2, l3, l4, l5⟩ := h.ok.lo
  obtain ⟨k1, k2, k3, k4, k5⟩ := h.ok.hi
  obtain ⟨⟨n1, n2, n3, n4⟩, ⟨n5, n6, n7⟩, ⟨n8, n9⟩, n10⟩ := h.ok.ne
  have fr : ∀ k, k ≠ b.C → k ≠ b.M → ((wr.setCell ⟨b.C, y, none⟩ (.int .i64 x)).setCell ⟨b.M, y, none⟩ (.int .i64 z)).heap[k]? = wr.heap[k]? := fun k h1 h2 => by
    rw [Below.heap_setCell _ _ _ _ h2, Below.heap_setCell _ _ _ _ h1]
  have ho : ∀ g, vo.ownBlock = some g → T ≤ g := fun g hg => (h.order.own_lt g hg).1
  have hq : ∀ g, vq.ownBlock = some g → T ≤ g := fun g hg => (ownBlock_lt h.own g hg).1
  refine ⟨h.ok, ?_, (fr _ n1 n2).trans h.box, ?_, ?_, h.look.frame (fr _ (Ne.symm n6) (Ne.symm n8)), ⟨owns_far (owns_far h.order.own (fun e => by have := ho _ e; omega)) (fun e => by have := ho _ e; omega)⟩, (fr _ (Ne.symm n7) (Ne.symm n9)).trans h.head, owns_far (owns_far h.own (fun e => by have := hq _ e; omega)) (fun e => by have := hq _ e; omega), h.apart, h.heap, Below.setCell (Below.setCell h.below l2 _) l3 _⟩
  · have := h.top; simp [World.setCell]; omega
  · exact (h.cost.put y x).frame (Below.heap_setCell _ _ _ _ n5)
  · exact (h.came.frame (w' := wr.setCell ⟨b.C, y, none⟩ (.int .i64 x)) (Below.heap_setCell _ _ _ _ (Ne.symm n5))).put y z

/-- One more is looked from. -/
theorem Sr.mark {w : World} {b : Blk} {T : Nat} {f : Fix} {c m : Nat → Int} {lk lk' : Nat → Bool} {o : List Int} {vo : Value} {qs : List T3} {vq : Value} {wr : World} (h : Sr w b T f c m lk o vo qs vq wr) (y : Nat) (h1 : lk' y = true) (h2 : ∀ j, j < f.n → j ≠ y → lk' j = lk j) :
    Sr w b T f c m lk' o vo qs vq (wr.setCell ⟨b.L, y, none⟩ (.bool true)) := by
  obtain ⟨l1, l2, l3, l4, l5⟩ := h.ok.lo
  obtain ⟨k1, k2, k3, k4, k5⟩ := h.ok.hi
  obtain ⟨⟨n1, n2, n3, n4⟩, ⟨n5, n6, n7⟩, ⟨n8, n9⟩, n10⟩ := h.ok.ne
  have fr : ∀ k, k ≠ b.L → (wr.setCell ⟨b.L, y, none⟩ (.bool true)).heap[k]? = wr.heap[k]? := fun k h1 => by
    rw [Below.heap_setCell _ _ _ _ h1]
  have ho : ∀ g, vo.ownBlock = some g → T ≤ g := fun g hg => (h.order.own_lt g hg).1
  have hq : ∀ g, vq.ownBlock = some g → T ≤ g := fun g hg => (ownBlock_lt h.own g hg).1
  refine ⟨h.ok, ?_, (fr _ n3).trans h.box, h.cost.frame (fr _ n6), h.came.frame (fr _ n8), h.look.put y true h1 h2, ⟨owns_far h.order.own (fun e => by have := ho _ e; omega)⟩, (fr _ (Ne.symm n10)).trans h.head, owns_far h.own (fun e => by have := hq _ e; omega), h.apart, h.heap, Below.setCell h.below l4 _⟩
  have := h.top; simp [World.setCell]; omega
/-- The order grows: in its own block, or in a new one. -/
theorem Sr.grew {w : World} {b : Blk} {T : Nat} {f : Fix} {c m : Nat → Int} {lk : Nat → Bool} {o : List Int} {vo : Value} {qs : List T3} {vq : Value} {wr w1 : World} (h : Sr w b T f c m lk o vo qs vq wr) (x : Int) {gg n cap : Nat} (hn : n = o.length + 1)
    (hgrow : wr.grownBy w1 vo.ownBlock) (hown : w1.ownsRow T 3 1 (.slice (some ⟨gg, 0, none⟩) n cap) n ((o ++ [x]).map (fun z => .int .i64 z))) (hat : vo.ownBlock = some gg ∨ wr.heap.size ≤ gg) :
    Sr w b T f c m lk (o ++ [x]) (.slice (some ⟨gg, 0, none⟩) n cap) qs vq (w1.setCell ⟨b.P, 8, none⟩ (.slice (some ⟨gg, 0, none⟩) n cap)) := by
  obtain ⟨l1, l2, l3, l4, l5⟩ := h.ok.lo
  obtain ⟨k1, k2, k3, k4, k5⟩ := h.ok.hi
  obtain ⟨⟨n1, n2, n3, n4⟩, ⟨n5, n6, n7⟩, ⟨n8, n9⟩, n10⟩ := h.ok.ne
  have top := h.top
  have ho : ∀ g, vo.ownBlock = some g → T ≤ g ∧ g < wr.heap.size := fun g hg => h.order.own_lt g hg
  have hq : ∀ g, vq.ownBlock = some g → T ≤ g ∧ g < wr.heap.size := fun g hg => ownBlock_lt h.own g hg
  have fr : ∀ k, k < T → w1.heap[k]? = wr.heap[k]? := fun k hk => hgrow.block k (by omega) (fun e => by have := (ho _ e.symm).1; omega)
  have fr2 : ∀ k, k ≠ b.P → (w1.setCell ⟨b.P, 8, none⟩ (.slice (some ⟨gg, 0, none⟩) n cap)).heap[k]? = w1.heap[k]? := fun k hk => Below.heap_setCell _ _ _ _ hk
  have hgT : T ≤ gg := by
    rcases hat with e | e
    · exact (ho _ e).1
    · omega
  have sz := hgrow.size
  have hol : (o ++ [x]).length = n := by rw [hn]; simp
  refine ⟨h.ok, by simp [World.setCell]; omega, ?_, h.cost.frame ((fr2 _ (Ne.symm n1)).trans (fr _ k2)), h.came.frame ((fr2 _ (Ne.symm n2)).trans (fr _ k3)), h.look.frame ((fr2 _ (Ne.symm n3)).trans (fr _ k4)), ⟨?_⟩, ((fr2 _ (Ne.symm n4)).trans (fr _ k5)).trans h.head, ?_, ?_, h.heap, ?_⟩
  · rw [heap_setCell_same _ _ _ _ _ _ _ ((fr _ k1).trans h.box)]
    rfl
  · rw [hol]
    exact owns_far hown (fun e => by simp [Value.ownBlock] at e; omega)
  · obtain ⟨a1, a2⟩ := h.own
    refine ⟨a1, ?_⟩
    rcases a2 with a2 | ⟨g', cap', cur, b1, b2, b3, b4⟩
    · exact .inl a2
    · have hgo : vq.ownBlock = some g' := by rw [b1]; rfl
      refine .inr ⟨g', cap', cur, b1, b2, ?_, b4⟩
      rw [fr2 g' (by have := (hq _ hgo).1; omega), hgrow.block g' (hq _ hgo).2 (fun e => h.apart _ hgo e.symm)]
      exact b3
  · intro k hk e
    simp [Value.ownBlock] at e
    subst e
    rcases hat with e | e
    · exact h.apart _ hk e
    · have := (hq _ hk).2; omega
  · have hb : Below w.heap.size w w1 := h.below.grown hgrow h.below.size (fun k hk => by have := (ho k hk).1; omega)
    exact Below.setCell hb l1 _

/-- Push on the state. -/
theorem pushs {w : World} {b : Blk} {T : Nat} {f : Fix} {c m : Nat → Int} {lk : Nat → Bool} {o : List Int} {vo : Value} {qs : List T3} {vq : Value} {wr : World} (p q r : Int) (h : Sr w b T f c m lk o vo qs vq wr) (hlen : qs.length + 1 ≤ 4398046511104) :
    Calls Try.prog 97 #[.pointer (some ⟨b.H, 0, none⟩), .agg #[.int .i64 p, .int .i64 q, .int .i64 r]] wr fun e w' => e = .returned (.tuple #[]) ∧ ∃ v' rs, Sr w b T f c m lk o vo rs v' w' ∧ rs.Perm (qs ++ [(p, q, r)]) ∧ (∀ k, k < wr.heap.size → k ≠ b.H → vq.ownBlock ≠ some k → w'.heap[k]? = wr.heap[k]?) := by
  obtain ⟨l1, l2, l3, l4, l5⟩ := h.ok.lo
  obtain ⟨k1, k2, k3, k4, k5⟩ := h.ok.hi
  obtain ⟨⟨n1, n2, n3, n4⟩, ⟨n5, n6, n7⟩, ⟨n8, n9⟩, n10⟩ := h.ok.ne
  have top := h.top
  have ho : ∀ g, vo.ownBlock = some g → T ≤ g ∧ g < wr.heap.size := h.order.own_lt
  have hq : ∀ g, vq.ownBlock = some g → T ≤ g ∧ g < wr.heap.size := ownBlock_lt h.own
  have hown0 : wr.ownsRow w.heap.size 113 3 vq qs.length (Jw.flat qs) := by
    obtain ⟨a1, a2⟩ := h.own
    refine ⟨a1, ?_⟩
    rcases a2 with a2 | ⟨g, cap, cur, b1, b2, b3⟩
    · exact .inl a2
    · exact .inr ⟨g, cap, cur, b1, by omega, b3⟩
  refine (Jw.push_any w.heap.size b.H vq qs p q r wr h.head hown0 (fun e => by have := (hq _ e).1; omega) l5 hlen h.heap).mono ?_
  rintro e w' ⟨rfl, g, cap, rs, r1, r2, r3, r4, r5, r6, r7⟩
  have hg : T ≤ g := by
    rcases r7 with e | e
    · exact (hq _ e).1
    · omega
  have fr : ∀ k, k < T → k ≠ b.H → w'.heap[k]? = wr.heap[k]? := fun k h1 h2 => r6 k (by omega) h2 (fun e => by have := (hq _ e).1; omega)
  have hap : ∀ k, vo.ownBlock = some k → k ≠ g := fun k e1 e2 => by
    subst e2
    rcases r7 with e | e
    · exact h.apart _ e e1
    · have := (ho _ e1).2; omega
  have sz : wr.heap.size ≤ w'.heap.size := r5.size
  refine ⟨rfl, .slice (some ⟨g, 0, none⟩) rs.length cap, rs, ⟨h.ok, by omega, (fr _ k1 n4).trans h.box, h.cost.frame (fr _ k2 n7), h.came.frame (fr _ k3 n9), h.look.frame (fr _ k4 n10), ⟨?_⟩, r1.head, r1.row.owns hg, ?_, r4, h.below.trans r5⟩, r3, r6⟩
  · obtain ⟨a1, a2⟩ := h.order.own
    refine ⟨a1, ?_⟩
    rcases a2 with a2 | ⟨g', cap', cur, b1, b2, b3, b4⟩
    · exact .inl a2
    · have hgo : vo.ownBlock = some g' := by rw [b1]; rfl
      exact .inr ⟨g', cap', cur, b1, b2, by rw [r6 g' (ho _ hgo).2 (by omega) (fun e => h.apart _ e hgo)]; exact b3, b4⟩
  · intro k hk e
    simp [Value.ownBlock] at hk
    exact hap k e hk.symm
/-- Pop of what is not empty. -/
theorem pops {w : World} {b : Blk} {T : Nat} {f : Fix} {c m : Nat → Int} {lk : Nat → Bool} {o : List Int} {vo : Value} {qs : List T3} {vq : Value} {wr : World} (h : Sr w b T f c m lk o vo qs vq wr) (h0 : 0 < qs.length) (hlen : qs.length ≤ 8796093022208) :
    Calls Try.prog 86 #[.pointer (some ⟨b.H, 0, none⟩)] wr fun e w' => ∃ (p : T3) (rs : List T3) (v' : Value), e = .returned (.tuple #[.agg #[.int .i64 p.1, .int .i64 p.2.1, .int .i64 p.2.2], .bool true]) ∧ Sr w b T f c m lk o vo rs v' w' ∧ (p :: rs).Perm qs ∧ (∀ q ∈ rs, Jp.Le p q) := by
  obtain ⟨l1, l2, l3, l4, l5⟩ := h.ok.lo
  obtain ⟨k1, k2, k3, k4, k5⟩ := h.ok.hi
  obtain ⟨⟨n1, n2, n3, n4⟩, ⟨n5, n6, n7⟩, ⟨n8, n9⟩, n10⟩ := h.ok.ne
  have top := h.top
  have ho : ∀ g, vo.ownBlock = some g → T ≤ g ∧ g < wr.heap.size := h.order.own_lt
  obtain ⟨g, cap, rfl, hg, hlt⟩ := h.own.form h0
  obtain ⟨hr, _⟩ := Jw.Row.of_owns rfl h.own
  have hne : b.H ≠ g := by omega
  refine (Jw.pop_any b.H g cap qs wr h0 ⟨h.head, hr, hne, hlen⟩ h.heap).mono ?_
  rintro e w' ⟨rfl, rs, q1, q2, q3, q4, q5, q6, q7, q8⟩
  have hpm : (Jp.at' qs 0 :: rs).Perm qs := (q2.cons _).trans (Jw.left_perm qs h0)
  have fr : ∀ k, k < T → k ≠ b.H → w'.heap[k]? = wr.heap[k]? := fun k h1 h2 => q4 k (by omega) h2 (by omega)
  refine ⟨Jp.at' qs 0, rs, .slice (some ⟨g, 0, none⟩) rs.length cap, rfl, ⟨h.ok, by omega, (fr _ k1 n4).trans h.box, h.cost.frame (fr _ k2 n7), h.came.frame (fr _ k3 n9), h.look.frame (fr _ k4 n10), ⟨?_⟩, q1.head, q1.row.owns hg, h.apart, q3, ?_⟩, hpm, ?_⟩
  · obtain ⟨a1, a2⟩ := h.order.own
    refine ⟨a1, ?_⟩
    rcases a2 with a2 | ⟨g', cap', cur, b1, b2, b3, b4⟩
    · exact .inl a2
    · have hgo : vo.ownBlock = some g' := by rw [b1]; rfl
      exact .inr ⟨g', cap', cur, b1, b2, by rw [q4 g' (ho _ hgo).2 (by omega) (fun e => h.apart g rfl (by rw [hgo, e]))]; exact b3, b4⟩
  · exact h.below.trans ⟨q5, q6, q7, q8, fun i hi => q4 i (by have := h.below.size; omega) (by omega) (by omega)⟩
  · intro y hy
    have hy' : y ∈ qs := hpm.mem_iff.1 (List.mem_cons_of_mem _ hy)
    obtain ⟨i, hi, rfl⟩ := List.mem_iff_getElem.1 hy'
    have := Jp.heap_least h.heap i hi
    unfold Jp.at' at this ⊢
    rw [List.getD_eq_getElem?_getD (i := i), List.getElem?_eq_getElem hi] at this
    exact this
set_option maxRecDepth 100000 in
set_option maxHeartbeats 4000000 in
theorem pops_nil (H c : Nat) (a : Option Addr) (w : World) (h1 : w.cell? ⟨H, 1, none⟩ = some (.slice a 0 c)) :
    Calls Try.prog 86 #[.pointer (some ⟨H, 0, none⟩)] w fun e w' => e = .returned (.tuple #[.agg #[.int .i64 0, .int .i64 0, .int .i64 0], .bool false]) ∧ Below w.heap.size w w' := by
  have A0 := kept_alloc (x := .cells #[.int .i64 0, .int .i64 0, .int .i64 0] 113) (kept_alloc (x := .cells #[.int .i64 0, .int .i64 0, .int .i64 0] 113) h1)
  go_enter Try.func86, Try.ntmps86
  go_wp2
  refine bodyPost_ret (v := .tuple #[.agg #[.int .i64 0, .int .i64 0, .int .i64 0], .bool false]) (by simp [results, Try.results86, go_sem]) rfl ⟨rfl, ?_⟩
  repeat (first | exact Below.refl _ _ | refine Below.setCell ?_ (by simp) _ | refine balloc ?_ _)
end Go.Proofs.Ytefikbjjdldomaa
