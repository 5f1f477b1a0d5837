/-
  The state of the knots' order: the net's box, the knots, what holds each, what is free, what has come; Push, Pop, release on it.
-/
import Derived.Test.YtkklgnfimkojlaaGE
import Derived.Test.YtkklgnfimkojlaaGF
import Derived.Test.YtkklgnfimkojlaaKB
namespace Go.Proofs.Ytkklgnfimkojlaa
open Go.RowKit
open Nm Wm Dm Bm Fm Fl Km

theorem heap_below {w : World} {k : Nat} {o : Obj} (h : w.heap[k]? = some o) : k < w.heap.size := by
  rcases Nat.lt_or_ge k w.heap.size with hlt | hge
  · exact hlt
  · rw [Array.getElem?_eq_none hge] at h; cases h
theorem owns_frame {w w' : World} {base n t sz : Nat} {v : Value} {xs : List Value} (h : w.ownsRow base t sz v n xs) (hb : ∀ k, v.ownBlock = some k → w'.heap[k]? = w.heap[k]?) : w'.ownsRow base t sz v n xs := by
  obtain ⟨h1, h2⟩ := h
  refine ⟨h1, ?_⟩
  rcases h2 with h2 | ⟨g, cap, cur, h3, h4, h5, h6⟩
  · exact .inl h2
  · exact .inr ⟨g, cap, cur, h3, h4, by rw [hb g (by rw [h3]; rfl)]; exact h5, h6⟩
theorem owns_own {w : World} {base n t sz : Nat} {v : Value} {xs : List Value} (h : w.ownsRow base t sz v n xs) : ∃ ao co, v = .slice ao n co := by
  rcases h.2 with ⟨rfl, h0⟩ | ⟨g, cap, cur, rfl, _⟩
  · subst h0; exact ⟨none, 0, rfl⟩
  · exact ⟨_, _, rfl⟩
/-- A heap of numbers in block H. -/
structure Hs (wr : World) (H : Nat) (v : Value) (qs : List Nat) : Prop where
  head : wr.heap[H]? = some (.cells #[.func (.func 35) #[] #[], v] 74 (0, 0))
  own : wr.ownsRow H 3 1 v qs.length (Gi.flat qs)
  ne : v.ownBlock ≠ some H
  heap : Hi.IsHeap qs
theorem Hs.frame {w w' : World} {H : Nat} {v : Value} {qs : List Nat} (h : Hs w H v qs) (h1 : w'.heap[H]? = w.heap[H]?) (h2 : ∀ k, v.ownBlock = some k → w'.heap[k]? = w.heap[k]?) : Hs w' H v qs :=
  ⟨h1.trans h.head, owns_frame h.own h2, h.ne, h.heap⟩
theorem Hs.lt {w : World} {H : Nat} {v : Value} {qs : List Nat} (h : Hs w H v qs) : H < w.heap.size := heap_below h.head
theorem hs_new (w : World) : Hs (w.alloc (.cells #[.func (.func 35) #[] #[], .slice none 0 0] 74)) w.heap.size (.slice none 0 0) [] :=
  ⟨heap_alloc_new _ _, World.ownsRow_nil _ _ _ _, by simp [Value.ownBlock], fun i h0 hi => by simp at hi⟩
theorem hpush {wr : World} {H : Nat} {v : Value} {qs : List Nat} (x : Nat) (h : Hs wr H v qs) (hlen : qs.length + 1 ≤ 8796093022208) :
    Calls Try.prog 36 #[.pointer (some ⟨H, 0, none⟩), .int .i64 ((x : Nat) : Int)] wr fun e w' => e = .returned (.tuple #[]) ∧ ∃ v' rs, Hs w' H v' rs ∧ rs.Perm (qs ++ [x]) ∧ Below H wr w' ∧ (∀ k, k < wr.heap.size → k ≠ H → v.ownBlock ≠ some k → w'.heap[k]? = wr.heap[k]?) ∧ (∀ k, v'.ownBlock = some k → v.ownBlock = some k ∨ wr.heap.size ≤ k) := by
  refine (Gi.push_any H H v qs x wr h.head h.own h.ne (Nat.le_refl _) hlen h.heap).mono ?_
  rintro e w' ⟨rfl, g, cap, rs, r1, r2, r3, r4, r5, r6, r7⟩
  refine ⟨rfl, .slice (some ⟨g, 0, none⟩) rs.length cap, rs, ⟨r1.head, r1.row.owns r2, by simpa [Value.ownBlock] using Ne.symm r1.ne, r4⟩, r3, r5, r6, ?_⟩
  intro k hk
  simp [Value.ownBlock] at hk
  subst hk
  exact r7
theorem hpop {wr : World} {H : Nat} {v : Value} {qs : List Nat} (h : Hs wr H v qs) (h0 : 0 < qs.length) (hlen : qs.length ≤ 8796093022208) :
    Calls Try.prog 37 #[.pointer (some ⟨H, 0, none⟩)] wr fun e w' => ∃ (p : Nat) (rs : List Nat) (v' : Value), e = .returned (.tuple #[.int .i64 ((p : Nat) : Int), .bool true]) ∧ Hs w' H v' rs ∧ qs.Perm (p :: rs) ∧ (∀ q ∈ qs, p ≤ q) ∧ v'.ownBlock = v.ownBlock ∧ Below H wr w' ∧ (∀ k, k < wr.heap.size → k ≠ H → v.ownBlock ≠ some k → w'.heap[k]? = wr.heap[k]?) := by
  have lH := h.lt
  obtain ⟨g, cap, rfl, hg, hlt⟩ := h.own.form h0
  obtain ⟨hr, _⟩ := Gi.Row.of_owns rfl h.own
  have hne : H ≠ g := fun e => h.ne (by simp [Value.ownBlock, e])
  refine (Gi.pop_any H g cap qs wr h0 ⟨h.head, hr, hne, hlen⟩ h.heap).mono ?_
  rintro e w' ⟨rfl, rs, q1, q2, q3, q4, q5, q6, q7, q8⟩
  have hpm : (Hi.at' qs 0 :: rs).Perm qs := (q2.cons _).trans (Gi.left_perm qs h0)
  refine ⟨Hi.at' qs 0, rs, .slice (some ⟨g, 0, none⟩) rs.length cap, rfl, ⟨q1.head, q1.row.owns hg, by simpa [Value.ownBlock] using Ne.symm q1.ne, q3⟩, hpm.symm, ?_, rfl, ⟨q5, q6, q7, q8, fun i hi => q4 i (by omega) (by omega) (by omega)⟩, fun k hk h1 h2 => q4 k hk h1 (fun e => h2 (by rw [e]; rfl))⟩
  intro y hy'
  obtain ⟨i, hi, rfl⟩ := List.mem_iff_getElem.1 hy'
  have := Hi.heap_least h.heap i hi
  unfold Hi.at' at this ⊢
  rw [List.getD_eq_getElem?_getD (i := i), List.getElem?_eq_getElem hi] at this
  exact this
theorem hpop_no {wr : World} {H : Nat} {v : Value} (h : Hs wr H v []) :
    Calls Try.prog 37 #[.pointer (some ⟨H, 0, none⟩)] wr fun e w' => e = .returned (.tuple #[.int .i64 0, .bool false]) ∧ Below wr.heap.size wr w' := by
  refine Gi.pop_none H wr ?_
  have hh := h.head
  rcases h.own.2 with ⟨rfl, _⟩ | ⟨g, cap, cur, rfl, _⟩
  · exact .inl hh
  · exact .inr ⟨g, cap, hh⟩

def ints (l : List Nat) : List Int := l.map (fun n => ((n : Nat) : Int))
theorem ints_length (l : List Nat) : (ints l).length = l.length := by simp [ints]
theorem ints_append (a b : List Nat) : ints (a ++ b) = ints a ++ ints b := by simp [ints]
theorem ints_at {l : List Nat} {i : Nat} (h : i < l.length) : (ints l).getD i 0 = ((l[i] : Nat) : Int) := by simp [ints, List.getD_eq_getElem?_getD, h]
theorem ints_inj {a b : List Nat} (h : ints a = ints b) : a = b := by
  have h2 := congrArg (fun l => l.map Int.toNat) h
  simpa [ints, List.map_map, Function.comp_def] using h2
/-- The state of the order. -/
structure Sk (w : World) (N0 G Q H N : Nat) (u : Value) (K : Nat → Nat) (W : Nat → Int) (qs : List Nat) (v ov : Value) (out : List Nat) (wr : World) : Prop where
  o1 : w.heap.size ≤ N0
  o2 : N0 < G
  o3 : G < Q
  o4 : Q < H
  box : wr.heap[N0]? = some (.cells #[.int .i64 (N : Int), u] 24 (0, 0))
  kn : Ur wr G N (fun x => (K x : Nat))
  wa : Ur wr Q N W
  hs : Hs wr H v qs
  od : Is wr (H + 1) ov (ints out)
  ne : ∀ k, ov.ownBlock = some k → v.ownBlock ≠ some k
  below : Below w.heap.size w wr
theorem Sk.kept {w : World} {N0 G Q H N : Nat} {u : Value} {K : Nat → Nat} {W : Nat → Int} {qs : List Nat} {v ov : Value} {out : List Nat} {wr wr' : World} (h : Sk w N0 G Q H N u K W qs v ov out wr) (hb : Below wr.heap.size wr wr') : Sk w N0 G Q H N u K W qs v ov out wr' :=
  ⟨h.o1, h.o2, h.o3, h.o4, (hb.block _ (heap_below h.box)).trans h.box, h.kn.below hb, h.wa.below hb, h.hs.frame (hb.block _ h.hs.lt) (fun k hk => hb.block k (ownBlock_lt h.hs.own k hk).2), h.od.below hb, h.ne, bthen h.below hb⟩
theorem Sk.cells {w : World} {N0 G Q H N : Nat} {u : Value} {K : Nat → Nat} {W : Nat → Int} {qs : List Nat} {v ov : Value} {out : List Nat} {wr : World} (h : Sk w N0 G Q H N u K W qs v ov out wr) : wr.cell? ⟨N0, 0, none⟩ = some (.int .i64 (N : Int)) ∧ wr.cell? ⟨N0, 1, none⟩ = some u := by
  simp [World.cell?, h.box]
theorem Sk.push {w : World} {N0 G Q H N : Nat} {u : Value} {K : Nat → Nat} {W : Nat → Int} {qs : List Nat} {v ov : Value} {out : List Nat} {wr : World} (x : Nat) (h : Sk w N0 G Q H N u K W qs v ov out wr) (hlen : qs.length + 1 ≤ 8796093022208) :
    Calls Try.prog 36 #[.pointer (some ⟨H, 0, none⟩), .int .i64 ((x : Nat) : Int)] wr fun e w' => e = .returned (.tuple #[]) ∧ ∃ v' rs, Sk w N0 G Q H N u K W rs v' ov out w' ∧ rs.Perm (qs ++ [x]) ∧ (∀ k, k < wr.heap.size → k ≠ H → v.ownBlock ≠ some k → w'.heap[k]? = wr.heap[k]?) ∧ (∀ k, v'.ownBlock = some k → v.ownBlock = some k ∨ wr.heap.size ≤ k) ∧ wr.heap.size ≤ w'.heap.size := by
  have o1 := h.o1
  have o2 := h.o2
  have o3 := h.o3
  have o4 := h.o4
  refine (hpush x h.hs hlen).mono ?_
  rintro e w' ⟨rfl, v', rs, r1, r2, r3, r4, r5⟩
  have hod := ownBlock_lt h.od.own
  refine ⟨rfl, v', rs, ⟨o1, o2, o3, o4, (r3.block _ (by omega)).trans h.box, h.kn.frame (r3.block _ (by omega)), h.wa.frame (r3.block _ (by omega)), r1, ⟨owns_frame h.od.own (fun k hk => r4 k (hod k hk).2 (by have := (hod k hk).1; omega) (h.ne k hk))⟩, fun k hk e => ?_, h.below.trans (r3.mono (by omega))⟩, r2, r4, r5, r3.size⟩
  rcases r5 k e with h1 | h1
  · exact h.ne k hk h1
  · have := (hod k hk).2; omega
theorem Sk.pop {w : World} {N0 G Q H N : Nat} {u : Value} {K : Nat → Nat} {W : Nat → Int} {qs : List Nat} {v ov : Value} {out : List Nat} {wr : World} (h : Sk w N0 G Q H N u K W qs v ov out wr) (h0 : 0 < qs.length) (hlen : qs.length ≤ 8796093022208) :
    Calls Try.prog 37 #[.pointer (some ⟨H, 0, none⟩)] wr fun e w' => ∃ (p : Nat) (rs : List Nat) (v' : Value), e = .returned (.tuple #[.int .i64 ((p : Nat) : Int), .bool true]) ∧ Sk w N0 G Q H N u K W rs v' ov out w' ∧ qs.Perm (p :: rs) ∧ (∀ q ∈ qs, p ≤ q) := by
  have o1 := h.o1
  have o2 := h.o2
  have o3 := h.o3
  have o4 := h.o4
  refine (hpop h.hs h0 hlen).mono ?_
  rintro e w' ⟨p, rs, v', rfl, r1, r2, r3, r4, r5, r6⟩
  have hod := ownBlock_lt h.od.own
  exact ⟨p, rs, v', rfl, ⟨o1, o2, o3, o4, (r5.block _ (by omega)).trans h.box, h.kn.frame (r5.block _ (by omega)), h.wa.frame (r5.block _ (by omega)), r1, ⟨owns_frame h.od.own (fun k hk => r6 k (hod k hk).2 (by have := (hod k hk).1; omega) (h.ne k hk))⟩, fun k hk => by rw [r4]; exact h.ne k hk, h.below.trans (r5.mono (by omega))⟩, r2, r3⟩
theorem Sk.rel {w : World} {N0 G Q H N b : Nat} {u : Value} {K : Nat → Nat} {W : Nat → Int} {qs : List Nat} {v ov : Value} {out : List Nat} {wr : World} {es : List E} (h : Sk w N0 G Q H N u K W qs v ov out wr) (hv : SlE w u es) (hb : Rnt N es) (hk : Kok N es K) (hW : ∀ t, 0 ≤ W t ∧ W t ≤ 600) :
    Calls Try.prog 38 #[.agg #[.int .i64 N, u], .slice (some ⟨G, 0, none⟩) N N, .slice (some ⟨Q, 0, none⟩) N N, .int .i64 ((b : Nat) : Int)] wr fun e w' => ∃ f, e = .returned f ∧ Sk w N0 G Q H N u K (rlw K es b W es.length) qs v ov out w' ∧ Is w' wr.heap.size f (ints (rlf K es b W es.length)) := by
  have o1 := h.o1
  have o2 := h.o2
  have o3 := h.o3
  have o4 := h.o4
  refine (release_any N G Q b K W u es wr (hv.below h.below) hb hk h.kn h.wa (by omega) hW ?_).mono ?_
  · intro hl a c o e
    subst e
    obtain ⟨b', off, cap, h1, h2⟩ := hv.some' hl
    simp only [Value.slice.injEq, Option.some.injEq, Addr.mk.injEq] at h1
    obtain ⟨⟨rfl, _, _⟩, _⟩ := h1
    have := World.block_lt_of_cell? w ⟨a, off + 0 * 3, none⟩ (h2 0 hl).1
    simp only at this
    omega
  rintro e w' ⟨f, rfl, r1, r2, r3⟩
  have hod := ownBlock_lt h.od.own
  have hhs := ownBlock_lt h.hs.own
  have FR : ∀ k, k < wr.heap.size → k ≠ Q → w'.heap[k]? = wr.heap[k]? := fun k hk hq => r3.block k hk (fun e => hq (Option.some.inj e))
  exact ⟨f, rfl, ⟨o1, o2, o3, o4, (FR _ (heap_below h.box) (by omega)).trans h.box, h.kn.frame (FR _ h.kn.lt (by omega)), r2, h.hs.frame (FR _ h.hs.lt (by omega)) (fun k hk => FR k (hhs k hk).2 (by have := (hhs k hk).1; omega)), ⟨owns_frame h.od.own (fun k hk => FR k (hod k hk).2 (by have := (hod k hk).1; omega))⟩, h.ne, h.below.trans ⟨r3.os, r3.tape, r3.output, r3.size, fun k hk => FR k (by have := h.below.size; omega) (by omega)⟩⟩, r1⟩
/-- Behind the append to what has come. -/
theorem Sk.app {w : World} {N0 G Q H N b gg cap n : Nat} {u : Value} {K : Nat → Nat} {W : Nat → Int} {qs : List Nat} {v ov : Value} {out : List Nat} {wr w0 w' : World} (h : Sk w N0 G Q H N u K W qs v ov out wr) (hn : n = (ints out).length) (ha : Below wr.heap.size wr w0) (hown : w'.ownsRow (H + 1) 3 1 (.slice (some ⟨gg, 0, none⟩) (n + 1) cap) (n + 1) ((ints out).map (fun z => .int .i64 z) ++ [.int .i64 ((b : Nat) : Int)]))
    (hgrow : w0.grownBy w' ov.ownBlock) (hat : ov.ownBlock = some gg ∨ wr.heap.size ≤ gg) : Sk w N0 G Q H N u K W qs v (.slice (some ⟨gg, 0, none⟩) (n + 1) cap) (out ++ [b]) w' := by
  have o1 := h.o1
  have o2 := h.o2
  have o3 := h.o3
  have o4 := h.o4
  have hod := ownBlock_lt h.od.own
  have hhs := ownBlock_lt h.hs.own
  have FR : ∀ k, k < wr.heap.size → ov.ownBlock ≠ some k → w'.heap[k]? = wr.heap[k]? := fun k hk hq => (hgrow.block k (Nat.lt_of_lt_of_le hk ha.size) (fun e => hq e.symm)).trans (ha.block k hk)
  have lo : ∀ k, k ≤ H → ov.ownBlock ≠ some k := fun k hk e => by have := (hod k e).1; omega
  refine ⟨o1, o2, o3, o4, (FR _ (heap_below h.box) (lo _ (by omega))).trans h.box, h.kn.frame (FR _ h.kn.lt (lo _ (by omega))), h.wa.frame (FR _ h.wa.lt (lo _ (by omega))), h.hs.frame (FR _ h.hs.lt (lo _ (by omega))) (fun k hk => FR k (hhs k hk).2 (fun e => h.ne k e hk)), ?_, fun k hk => ?_, h.below.trans ⟨hgrow.os.trans ha.os, hgrow.tape.trans ha.tape, hgrow.output.trans ha.output, Nat.le_trans ha.size hgrow.size, fun k hk => FR k (by have := h.below.size; omega) (lo k (by have := h.o1; omega))⟩⟩
  · exact Is.next (ints_append out [b]) hn hown
  · simp [Value.ownBlock] at hk
    subst hk
    intro e
    rcases hat with h1 | h1
    · exact h.ne _ h1 e
    · have := (hhs _ e).2; omega
end Go.Proofs.Ytkklgnfimkojlaa
