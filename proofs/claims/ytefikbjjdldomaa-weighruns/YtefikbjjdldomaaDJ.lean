/-
  The state of the search; Push and Pop on it.
-/
import Derived.Test.YtefikbjjdldomaaHE
import Derived.Test.YtefikbjjdldomaaHx
import Derived.Test.YtefikbjjdldomaaRP
namespace Go.Proofs.Ytefikbjjdldomaa
open Go.RowKit
open Nm Wm Dm Hp

/-- The state of the search. -/
structure Dj (w : World) (N0 G H : Nat) (n : Int) (N : Nat) (u : Value) (d : Nat → Int) (qs : List (Int × Int)) (v : Value) (wr : World) : Prop where
  o1 : w.heap.size ≤ N0
  o2 : N0 < G
  o3 : G < H
  box : wr.heap[N0]? = some (.cells #[.int .i64 n, u] 24 (0, 0))
  dist : Ur wr G N d
  head : wr.heap[H]? = some (.cells #[.func (.func 73) #[] #[], v] 125 (0, 0))
  own : wr.ownsRow H 101 2 v qs.length (flat qs)
  ne : v.ownBlock ≠ some H
  heap : IsHeap qs
  below : Below w.heap.size w wr
theorem Dj.kept {w : World} {N0 G H : Nat} {n : Int} {N : Nat} {u : Value} {d : Nat → Int} {qs : List (Int × Int)} {v : Value} {wr wr' : World} (h : Dj w N0 G H n N u d qs v wr) (hb : Below wr.heap.size wr wr') : Dj w N0 G H n N u d qs v wr' :=
  ⟨h.o1, h.o2, h.o3, (hb.block _ (heap_lt h.box)).trans h.box, h.dist.below hb, (hb.block _ (heap_lt h.head)).trans h.head, owns_below h.own hb, h.ne, h.heap, bthen h.below hb⟩
theorem Dj.cells {w : World} {N0 G H : Nat} {n : Int} {N : Nat} {u : Value} {d : Nat → Int} {qs : List (Int × Int)} {v : Value} {wr : World} (h : Dj w N0 G H n N u d qs v wr) : wr.cell? ⟨N0, 0, none⟩ = some (.int .i64 n) ∧ wr.cell? ⟨N0, 1, none⟩ = some u := by
  simp [World.cell?, h.box]
theorem owns_put {w : World} {base g o : Nat} {t : TypeId} {size n : Nat} {v u : Value} {xs : List Value} (h : w.ownsRow base t size v n xs) (hg : g < base) : (w.setCell ⟨g, o, none⟩ u).ownsRow base t size v n xs := by
  obtain ⟨h1, h2⟩ := h
  refine ⟨h1, ?_⟩
  rcases h2 with h2 | ⟨g', cap, cur, h3, h4, h5, h6⟩
  · exact .inl h2
  · exact .inr ⟨g', cap, cur, h3, h4, by rw [Below.heap_setCell _ _ _ _ (show g' ≠ g by omega)]; exact h5, h6⟩
theorem Dj.put {w : World} {N0 G H : Nat} {n : Int} {N : Nat} {u : Value} {d : Nat → Int} {qs : List (Int × Int)} {v : Value} {wr : World} (h : Dj w N0 G H n N u d qs v wr) (y : Nat) (x : Int) : Dj w N0 G H n N u (upd d y x) qs v (wr.setCell ⟨G, y, none⟩ (.int .i64 x)) := by
  have o1 := h.o1
  have o2 := h.o2
  have o3 := h.o3
  exact ⟨o1, o2, o3, by rw [Below.heap_setCell _ _ _ _ (show N0 ≠ G by omega)]; exact h.box, h.dist.put y x, by rw [Below.heap_setCell _ _ _ _ (show H ≠ G by omega)]; exact h.head, owns_put h.own h.o3, h.ne, h.heap, Below.setCell h.below (by simp; omega) _⟩

theorem pushj {w : World} {N0 G H : Nat} {n : Int} {N : Nat} {u : Value} {d : Nat → Int} {qs : List (Int × Int)} {v : Value} {wr : World} (a b : Int) (h : Dj w N0 G H n N u d qs v wr) (hlen : qs.length + 1 ≤ 8796093022208) :
    Calls Try.prog 74 #[.pointer (some ⟨H, 0, none⟩), .agg #[.int .i64 a, .int .i64 b]] wr fun e w' => e = .returned (.tuple #[]) ∧ ∃ v' rs, Dj w N0 G H n N u d rs v' w' ∧ rs.Perm (qs ++ [(a, b)]) ∧ (∀ k, k < wr.heap.size → k ≠ H → v.ownBlock ≠ some k → w'.heap[k]? = wr.heap[k]?) ∧ (∀ k, v'.ownBlock = some k → v.ownBlock = some k ∨ wr.heap.size ≤ k) ∧ wr.heap.size ≤ w'.heap.size := by
  have o1 := h.o1
  have o2 := h.o2
  have o3 := h.o3
  have lH := heap_lt h.head
  refine (push_any H H v qs a b wr h.head h.own h.ne (Nat.le_refl _) hlen h.heap).mono ?_
  rintro e w' ⟨rfl, g, cap, rs, r1, r2, r3, r4, r5, r6, r7⟩
  refine ⟨rfl, .slice (some ⟨g, 0, none⟩) rs.length cap, rs, ⟨o1, o2, o3, (r5.block _ (by omega)).trans h.box, h.dist.frame (r5.block _ o3), r1.head, r1.row.owns r2, by simpa [Value.ownBlock] using Ne.symm r1.ne, r4, h.below.trans (r5.mono (by omega))⟩, r3, r6, ?_, r5.size⟩
  intro k hk
  simp [Value.ownBlock] at hk
  subst hk
  exact r7

theorem popj {w : World} {N0 G H : Nat} {n : Int} {N : Nat} {u : Value} {d : Nat → Int} {qs : List (Int × Int)} {v : Value} {wr : World} (h : Dj w N0 G H n N u d qs v wr) (h0 : 0 < qs.length) (hlen : qs.length ≤ 8796093022208) :
    Calls Try.prog 75 #[.pointer (some ⟨H, 0, none⟩)] wr fun e w' => ∃ (p : Int × Int) (rs : List (Int × Int)) (v' : Value), e = .returned (.tuple #[.agg #[.int .i64 p.1, .int .i64 p.2], .bool true]) ∧ Dj w N0 G H n N u d rs v' w' ∧ (p :: rs).Perm qs ∧ (∀ q ∈ rs, p.1 ≤ q.1) := by
  have o1 := h.o1
  have o2 := h.o2
  have o3 := h.o3
  have lH := heap_lt h.head
  obtain ⟨g, cap, rfl, hg, hlt⟩ := h.own.form h0
  obtain ⟨hr, _⟩ := Row.of_owns rfl h.own
  have hne : H ≠ g := fun e => h.ne (by simp [Value.ownBlock, e])
  refine (pop_any H g cap qs wr h0 ⟨h.head, hr, hne, hlen⟩ h.heap).mono ?_
  rintro e w' ⟨rfl, rs, q1, q2, q3, q4, q5, q6, q7, q8⟩
  have hpm : (at' qs 0 :: rs).Perm qs := (q2.cons _).trans (left_perm qs h0)
  refine ⟨at' qs 0, rs, .slice (some ⟨g, 0, none⟩) rs.length cap, rfl, ⟨o1, o2, o3, ?_, h.dist.frame (q4 G h.dist.lt (by omega) (by omega)), q1.head, q1.row.owns hg, by simpa [Value.ownBlock] using Ne.symm q1.ne, q3, ?_⟩, hpm, ?_⟩
  · rw [q4 N0 (by omega) (by omega) (by omega)]; exact h.box
  · exact h.below.trans ⟨q5, q6, q7, q8, fun i hi => q4 i (by omega) (by omega) (by omega)⟩
  · intro y hy
    have hy' : y ∈ qs := hpm.mem_iff.1 (List.mem_cons_of_mem _ hy)
    obtain ⟨i, hi, rfl⟩ := List.mem_iff_getElem.1 hy'
    have := heap_least h.heap i hi
    unfold at' at this ⊢
    rw [List.getD_eq_getElem?_getD (i := i), List.getElem?_eq_getElem hi] at this
    exact this

set_option maxRecDepth 100000 in
set_option maxHeartbeats 4000000 in
theorem pop_nil (H c : Nat) (a : Option Addr) (w : World) (h1 : w.cell? ⟨H, 1, none⟩ = some (.slice a 0 c)) :
    Calls Try.prog 75 #[.pointer (some ⟨H, 0, none⟩)] w fun e w' => e = .returned (.tuple #[.agg #[.int .i64 0, .int .i64 0], .bool false]) ∧ Below w.heap.size w w' := by
  have A0 := kept_alloc (x := .cells #[.int .i64 0, .int .i64 0] 101) (kept_alloc (x := .cells #[.int .i64 0, .int .i64 0] 101) h1)
  go_enter Try.func75, Try.ntmps75
  go_wp2
  refine bodyPost_ret (v := .tuple #[.agg #[.int .i64 0, .int .i64 0], .bool false]) (by simp [results, Try.results75, go_sem]) rfl ⟨rfl, ?_⟩
  repeat (first | exact Below.refl _ _ | refine Below.setCell ?_ (by simp) _ | refine balloc ?_ _)
end Go.Proofs.Ytefikbjjdldomaa
