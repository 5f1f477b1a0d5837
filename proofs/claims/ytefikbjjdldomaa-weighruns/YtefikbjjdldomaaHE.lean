/-
  Contract: Pop.
-/
import Derived.Test.YtefikbjjdldomaaHC
import Derived.Test.YtefikbjjdldomaaHx
namespace Go.Proofs.Ytefikbjjdldomaa
open Go.RowKit
open Hp
attribute [local go_sem ↓] Go.wp_at_zero Go.wp_at_succ

/-- A variable that holds one pop. -/
def Box (w : World) (k : Nat) (p : Int × Int) : Prop := w.heap[k]? = some (.cells #[.int .i64 p.1, .int .i64 p.2] 101 (0, 0))
theorem Box.cell {w : World} {k : Nat} {p : Int × Int} (h : Box w k p) : w.cell? ⟨k, 0, none⟩ = some (.int .i64 p.1) ∧ w.cell? ⟨k, 1, none⟩ = some (.int .i64 p.2) ∧ w.frozen? ⟨k, 0, none⟩ = false ∧ w.frozen? ⟨k, 1, none⟩ = false := by
  unfold Box at h
  simp [World.cell?, World.frozen?, h]
theorem Box.frame {w w' : World} {k : Nat} {p : Int × Int} (h : Box w k p) (hb : w'.heap[k]? = w.heap[k]?) : Box w' k p := hb.trans h
theorem Box.lt {w : World} {k : Nat} {p : Int × Int} (h : Box w k p) : k < w.heap.size := by
  rcases Nat.lt_or_ge k w.heap.size with hlt | hge
  · exact hlt
  · unfold Box at h; rw [Array.getElem?_eq_none hge] at h; cases h
theorem Row.take {w : World} {g cap : Nat} {ps : List (Int × Int)} (h : Row w g cap ps) (m : Nat) : Row w g cap (ps.take m) := by
  obtain ⟨cur, h1, h2, h3, h4, h5⟩ := h
  refine ⟨cur, h1, by simp; omega, h3, h4, ?_⟩
  have e : (ps.take m).length = min m ps.length := by simp
  have hfl : flat (ps.take m) = (flat ps).take ((ps.take m).length * 2) := by
    have h6 : flat ps = flat (ps.take m) ++ flat (ps.drop m) := by rw [← flat_append, List.take_append_drop]
    have h7 := flat_length (ps.take m)
    rw [h6, ← h7, List.take_left]
  rw [hfl, ← h5, List.take_take]
  congr 1
  omega
/-- What is left when the first is taken out, ahead of the sinking. -/
def left (ps : List (Int × Int)) : List (Int × Int) := ((ps.set 0 (at' ps (ps.length - 1))).set (ps.length - 1) (0, 0)).take (ps.length - 1)
theorem left_length (ps : List (Int × Int)) : (left ps).length = ps.length - 1 := by simp [left]
theorem at_left (ps : List (Int × Int)) (i : Nat) (h0 : 0 < i) (hi : i < ps.length - 1) : at' (left ps) i = at' ps i := by
  unfold at' left
  simp only [List.getD_eq_getElem?_getD]
  rw [List.getElem?_take_of_lt hi, List.getElem?_set_ne (by omega), List.getElem?_set_ne (by omega)]
theorem left_perm (ps : List (Int × Int)) (h : 0 < ps.length) : (at' ps 0 :: left ps).Perm ps := by
  cases ps with
  | nil => simp at h
  | cons x r =>
    rcases List.eq_nil_or_concat r with rfl | ⟨m, l, rfl⟩
    · simp [left, at']
    · have e : left (x :: (m.concat l)) = l :: m := by
        simp [left, at', List.getD_eq_getElem?_getD]
      rw [e]
      exact List.Perm.cons x (List.concat_perm m l).symm
theorem left_down {ps : List (Int × Int)} (h : IsHeap ps) : DownAt (left ps) 0 := by
  refine ⟨fun i h0 hi hne => ?_, fun hc => absurd hc (by omega)⟩
  rw [left_length] at hi
  rw [at_left ps i h0 hi, at_left ps _ (by omega) (by omega)]
  exact h i h0 (by omega)
theorem HeapIs.put {w : World} {H g cap : Nat} {ps : List (Int × Int)} (h : HeapIs w H g cap ps) (i : Nat) (x y : Int) :
    HeapIs ((w.setCell ⟨g, i * 2, none⟩ (.int .i64 x)).setCell ⟨g, i * 2 + 1, none⟩ (.int .i64 y)).drew H g cap (ps.set i (x, y)) := by
  refine ⟨?_, h.row.put i x y, h.ne, by simpa using h.len⟩
  show ((w.setCell _ _).setCell _ _).heap[H]? = _
  rw [Below.heap_setCell _ _ _ _ h.ne, Below.heap_setCell _ _ _ _ h.ne, List.length_set]
  exact h.head
theorem HeapIs.cut {w : World} {H g cap n : Nat} {ps : List (Int × Int)} (h : HeapIs w H g cap ps) (hn : n ≤ ps.length) :
    HeapIs (w.setCell ⟨H, 1, none⟩ (.slice (some ⟨g, 0, none⟩) n cap)) H g cap (ps.take n) := by
  refine ⟨?_, (h.row.take n).frame (Below.heap_setCell _ _ _ _ (Ne.symm h.ne)), h.ne, by have := h.len; simp; omega⟩
  rw [heap_setCell_same _ _ _ _ _ _ _ h.head]
  have : (ps.take n).length = n := by simp; omega
  rw [this]
  rfl
set_option maxRecDepth 100000 in
set_option maxHeartbeats 8000000 in
theorem pop_any (H g cap : Nat) (ps : List (Int × Int)) (w : World) (hn : 0 < ps.length) (h : HeapIs w H g cap ps) (hp : IsHeap ps) :
    Calls Try.prog 75 #[.pointer (some ⟨H, 0, none⟩)] w fun e w' => e = .returned (.tuple #[.agg #[.int .i64 (at' ps 0).1, .int .i64 (at' ps 0).2], .bool true]) ∧
      ∃ qs, HeapIs w' H g cap qs ∧ qs.Perm (left ps) ∧ IsHeap qs ∧ (∀ k, k < w.heap.size → k ≠ H → k ≠ g → w'.heap[k]? = w.heap[k]?) ∧ w'.os = w.os ∧ w'.tape = w.tape ∧ w'.output = w.output ∧ w.heap.size ≤ w'.heap.size := by
  have hlen := h.len
  have lg := h.row.lt
  have lH := h.ltH
  obtain ⟨n, hpn⟩ : ∃ n, ps.length = n + 1 := ⟨ps.length - 1, by omega⟩
  obtain ⟨c0, c1, f0, f1⟩ := h.row.cell 0 hn
  obtain ⟨g0, g1, gf⟩ := h.cell
  rw [hpn] at g1
  obtain ⟨a, ha⟩ : ∃ x, (at' ps 0).1 = x := ⟨_, rfl⟩
  obtain ⟨b, hb⟩ : ∃ x, (at' ps 0).2 = x := ⟨_, rfl⟩
  rw [ha] at c0
  rw [hb] at c1
  rw [ha, hb]
  have HA : Hid _ := ha
  have HB : Hid _ := hb
  have HN : Hid _ := hpn
  have HP : Hid (IsHeap ps) := hp
  clear ha hb hpn hp
  have hn1 : ((n : Int) + 1 == 0) = false := beq_eq_false_iff_ne.2 (by omega)
  have hn2 : (0 : Int) < (n : Int) + 1 := by omega
  have hnw : IntKind.i64.wrap (n : Int) = (n : Int) := by rw [IntKind.wrap_i64]; have := HN.out; omega
  go_enter Try.func75, Try.ntmps75
  have A0 := kept_alloc (x := .cells #[.int .i64 0, .int .i64 0] 101) (kept_alloc (x := .cells #[.int .i64 0, .int .i64 0] 101) g1)
  go_wp2_with fail
  clear A0
  have bw : Below w.heap.size w ((w.alloc (.cells #[.int .i64 0, .int .i64 0] 101)).alloc (.cells #[.int .i64 0, .int .i64 0] 101)) := balloc (balloc (Below.refl _ _) _) _
  have x1 : Box ((w.alloc (.cells #[.int .i64 0, .int .i64 0] 101)).alloc (.cells #[.int .i64 0, .int .i64 0] 101)) w.heap.size (0, 0) := by
    unfold Box
    rw [Below.heap_alloc _ _ _ (by simp)]
    exact heap_alloc_new _ _
  have x2 : Box ((w.alloc (.cells #[.int .i64 0, .int .i64 0] 101)).alloc (.cells #[.int .i64 0, .int .i64 0] 101)) (w.heap.size + 1) (0, 0) := by
    unfold Box
    have := heap_alloc_new (w.alloc (.cells #[.int .i64 0, .int .i64 0] 101)) (.cells #[.int .i64 0, .int .i64 0] 101)
    simpa using this
  generalize hW0 : ((w.alloc (.cells #[.int .i64 0, .int .i64 0] 101)).alloc (.cells #[.int .i64 0, .int .i64 0] 101)) = W0 at *
  have h0 := h.below bw
  have hz0 : w.heap.size + 1 < W0.heap.size := x2.lt
  clear hW0 g0 g1 gf c0 c1 f0 f1
  obtain ⟨c0, c1, f0, f1⟩ := h0.row.cell 0 hn
  rw [HA.out] at c0
  rw [HB.out] at c1
  simp only [Nat.zero_mul, Nat.zero_add] at c0 c1
  obtain ⟨g0, g1, gf⟩ := h0.cell
  rw [HN.out] at g1
  have z1 := World.new_ne W0 _ g1
  have z2 := World.new_ne W0 _ c0
  have z3 := World.new_ne W0 _ c1
  go_region_held3 (fun w' => w'.cell? ⟨H, 1, none⟩ = some (.slice (some ⟨g, 0, none⟩) (n + 1) cap) ∧ w'.cell? ⟨g, 0, none⟩ = some (.int .i64 a) ∧ w'.cell? ⟨g, 1, none⟩ = some (.int .i64 b)) (go_keep) (fail)
  go_wp2_with fail
  have bw1 : Below W0.heap.size W0 (W0.alloc (.cells #[.int .i64 a, .int .i64 b] 101)).drew := Below.drew (balloc (Below.refl _ _) _)
  have x3 : Box (W0.alloc (.cells #[.int .i64 a, .int .i64 b] 101)).drew W0.heap.size (a, b) := heap_alloc_new W0 _
  generalize hW1 : (W0.alloc (.cells #[.int .i64 a, .int .i64 b] 101)).drew = W1 at *
  clear hW1
  have h1 := h0.below bw1
  have y1 := x1.frame (bw1.block _ x1.lt)
  have y2 := x2.frame (bw1.block _ x2.lt)
  have fr1 : ∀ k, k < w.heap.size → W1.heap[k]? = w.heap[k]? := fun k hk => (bw1.block k (by omega)).trans (bw.block k hk)
  have io1 : W1.os = w.os ∧ W1.tape = w.tape ∧ W1.output = w.output ∧ w.heap.size ≤ W1.heap.size := ⟨bw1.os.trans bw.os, bw1.tape.trans bw.tape, bw1.output.trans bw.output, Nat.le_trans bw.size bw1.size⟩
  have hz1 : W0.heap.size < W1.heap.size := x3.lt
  clear bw bw1 x1 x2 h0 c0 c1 f0 f1 g0 g1 gf z1 z2 z3
  obtain ⟨c0, c1, f0, f1⟩ := h1.row.cell 0 hn
  simp only [Nat.zero_mul, Nat.zero_add] at c0 c1 f0 f1
  obtain ⟨d0, d1, e0, e1⟩ := h1.row.cell n (by have := HN.out; omega)
  obtain ⟨g0, g1, gf⟩ := h1.cell
  rw [HN.out] at g1
  have ir : (n : Int) < (n : Int) + 1 := by omega
  go_region
  have h2 := h1.put 0 (at' ps n).1 (at' ps n).2
  have gw2 : W1.grownBy _ (some g) := grown_drew (grown_setCell (o := 0 * 2 + 1) (v := .int .i64 (at' ps n).2) (grown_setCell (o := 0 * 2) (v := .int .i64 (at' ps n).1) (grown_refl _ _)))
  simp only [Nat.zero_mul, Nat.zero_add] at h2 gw2
  generalize ((W1.setCell ⟨g, 0, none⟩ (.int .i64 (at' ps n).1)).setCell ⟨g, 1, none⟩ (.int .i64 (at' ps n).2)).drew = W2 at *
  have v1 := y1.frame (gw2.block _ y1.lt (by simp; omega))
  have v2 := y2.frame (gw2.block _ y2.lt (by simp; omega))
  have v3 := x3.frame (gw2.block _ x3.lt (by simp; omega))
  clear c0 c1 f0 f1 d0 d1 e0 e1 g0 g1 gf y1 y2 x3
  go_wp2_with fail
  obtain ⟨d0, d1, e0, e1⟩ := h2.row.cell n (by have := HN.out; simp; omega)
  obtain ⟨g0, g1, gf⟩ := h2.cell
  rw [List.length_set, HN.out] at g1
  obtain ⟨n0, n1, _, _⟩ := v2.cell
  simp only at n0 n1
  go_region
  have h3 := h2.put n 0 0
  have gw3 : W2.grownBy _ (some g) := grown_drew (grown_setCell (o := n * 2 + 1) (v := .int .i64 0) (grown_setCell (o := n * 2) (v := .int .i64 0) (grown_refl _ _)))
  generalize ((W2.setCell ⟨g, n * 2, none⟩ (.int .i64 0)).setCell ⟨g, n * 2 + 1, none⟩ (.int .i64 0)).drew = W3 at *
  have u1 := v1.frame (gw3.block _ v1.lt (by simp; omega))
  have u3 := v3.frame (gw3.block _ v3.lt (by simp; omega))
  clear d0 d1 e0 e1 g0 g1 gf n0 n1 v1 v2 v3
  obtain ⟨g0, g1, gf⟩ := h3.cell
  rw [List.length_set, List.length_set, HN.out] at g1
  have h4 := h3.cut (n := n) (by have := HN.out; simp; omega)
  have HL : Hid (left ps = ((ps.set 0 ((at' ps n).1, (at' ps n).2)).set n (0, 0)).take n) := by
    unfold Hid left
    rw [HN.out]
    rfl
  rw [← HL.out] at h4
  have hcapn : (n : Int) ≤ (cap : Int) := by
    obtain ⟨_, _, hc, _⟩ := h3.row
    have := HN.out
    simp at hc
    omega
  go_wp2_with fail
  have K := sink_any H g 0 cap (left ps) _ (by omega) h4 (left_down HP.out)
  rw [show (((0 : Nat) : Int)) = 0 from rfl] at K
  refine K.mono ?_
  rintro e w5 ⟨rfl, qs, q1, q2, q3, q4⟩
  have fH : ∀ k, k ≠ H → (W3.setCell ⟨H, 1, none⟩ (.slice (some ⟨g, 0, none⟩) n cap)).heap[k]? = W3.heap[k]? := fun k hk => Below.heap_setCell _ _ _ _ hk
  have t1 := u1.frame (fH _ (by omega))
  have t3 := u3.frame (fH _ (by omega))
  have s1 := t1.frame (q4.block _ t1.lt (by simp; omega))
  have s3 := t3.frame (q4.block _ t3.lt (by simp; omega))
  obtain ⟨a0, a1, a2, a3⟩ := s1.cell
  obtain ⟨b0, b1, _, _⟩ := s3.cell
  simp only at a0 a1 b0 b1
  have hsz : (W3.setCell ⟨H, 1, none⟩ (.slice (some ⟨g, 0, none⟩) n cap)).heap.size = W3.heap.size := by simp [World.setCell]
  have frz : ∀ k, k < w.heap.size → k ≠ H → k ≠ g → w5.heap[k]? = w.heap[k]? := fun k hk h1 h2 => by
    have l1 : k < W1.heap.size := by omega
    have l2 : k < W2.heap.size := by have := gw2.size; omega
    have l3 : k < W3.heap.size := by have := gw3.size; omega
    rw [q4.block k (by omega) (by simpa using h2), fH k h1, gw3.block k l2 (by simpa using h2), gw2.block k l1 (by simpa using h2), fr1 k hk]
  have ios : w5.os = w.os ∧ w5.tape = w.tape ∧ w5.output = w.output ∧ w.heap.size ≤ w5.heap.size := by
    obtain ⟨i1, i2, i3, i4⟩ := io1
    refine ⟨(q4.os.trans (gw3.os.trans (gw2.os.trans i1))), (q4.tape.trans (gw3.tape.trans (gw2.tape.trans i2))), (q4.output.trans (gw3.output.trans (gw2.output.trans i3))), ?_⟩
    have := q4.size
    have := gw3.size
    have := gw2.size
    omega
  clear K h h1 h2 h3 h4 u1 u3 t1 t3 gw2 gw3 fr1 io1 g0 g1 gf q4 fH
  go_wp2
  refine bodyPost_ret (v := .tuple #[.agg #[.int .i64 a, .int .i64 b], .bool true]) (by simp [results, Try.results75, go_sem, a0, a1]) rfl ⟨rfl, qs, q1.frame ?_ ?_, q2, q3, fun k hk h1 h2 => ?_, ios.1, ios.2.1, ios.2.2.1, by simp [World.setCell]; omega⟩
  · rw [Below.heap_setCell _ _ _ _ (by simp; omega), Below.heap_setCell _ _ _ _ (by simp; omega)]
  · rw [Below.heap_setCell _ _ _ _ (by simp; omega), Below.heap_setCell _ _ _ _ (by simp; omega)]
  · rw [Below.heap_setCell _ _ _ _ (by simp; omega), Below.heap_setCell _ _ _ _ (by simp; omega)]
    exact frz k hk h1 h2
end Go.Proofs.Ytefikbjjdldomaa
