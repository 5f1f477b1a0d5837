/-
  Contract: Pop, of numbers.
-/
import Derived.Test.YtkklgnfimkojlaaGC
import Derived.Test.YtkklgnfimkojlaaGD
namespace Go.Proofs.Ytkklgnfimkojlaa.Gi
open Go.RowKit
open Hi
attribute [local go_sem ↓] Go.wp_at_zero Go.wp_at_succ

theorem Row.take {w : World} {g cap : Nat} {ps : List Nat} (h : Row w g cap ps) (m : Nat) : Row w g cap (ps.take m) := by
  obtain ⟨cur, h1, h2, h3, h4, h5⟩ := h
  refine ⟨cur, h1, by simp; omega, h3, h4, ?_⟩
  have e : (ps.take m).length = min m ps.length := by simp
  have hfl : flat (ps.take m) = (flat ps).take (ps.take m).length := by
    have h6 : flat ps = flat (ps.take m) ++ flat (ps.drop m) := by rw [← flat_append, List.take_append_drop]
    have h7 := flat_length (ps.take m)
    rw [h6, ← h7, List.take_left]
  rw [hfl, ← h5, List.take_take]
  congr 1
  omega
/-- What is left when the first is taken out, ahead of the sinking. -/
def left (ps : List Nat) : List Nat := ((ps.set 0 (at' ps (ps.length - 1))).set (ps.length - 1) 0).take (ps.length - 1)
theorem left_length (ps : List Nat) : (left ps).length = ps.length - 1 := by simp [left]
theorem at_left (ps : List Nat) (i : Nat) (h0 : 0 < i) (hi : i < ps.length - 1) : at' (left ps) i = at' ps i := by
  unfold at' left
  simp only [List.getD_eq_getElem?_getD]
  rw [List.getElem?_take_of_lt hi, List.getElem?_set_ne (by omega), List.getElem?_set_ne (by omega)]
theorem left_perm (ps : List Nat) (h : 0 < ps.length) : (at' ps 0 :: left ps).Perm ps := by
  cases ps with
  | nil => simp at h
  | cons x r =>
    rcases List.eq_nil_or_concat r with rfl | ⟨m, l, rfl⟩
    · simp [left, at']
    · have e : left (x :: (m.concat l)) = l :: m := by
        simp [left, at', List.getD_eq_getElem?_getD]
      rw [e]
      exact List.Perm.cons x (List.concat_perm m l).symm
theorem left_down {ps : List Nat} (h : IsHeap ps) : DownAt (left ps) 0 := by
  refine ⟨fun i h0 hi hne => ?_, fun hc => absurd hc (by omega)⟩
  rw [left_length] at hi
  rw [at_left ps i h0 hi, at_left ps _ (by omega) (by omega)]
  exact h i h0 (by omega)
theorem HeapIs.put {w : World} {H g cap : Nat} {ps : List Nat} (h : HeapIs w H g cap ps) (i x : Nat) :
    HeapIs (w.setCell ⟨g, i, none⟩ (.int .i64 ((x : Nat) : Int))) H g cap (ps.set i x) := by
  refine ⟨?_, h.row.put i x, h.ne, by simpa using h.len⟩
  rw [Below.heap_setCell _ _ _ _ h.ne, List.length_set]
  exact h.head
theorem HeapIs.cut {w : World} {H g cap n : Nat} {ps : List Nat} (h : HeapIs w H g cap ps) (hn : n ≤ ps.length) :
    HeapIs (w.setCell ⟨H, 1, none⟩ (.slice (some ⟨g, 0, none⟩) n cap)) H g cap (ps.take n) := by
  refine ⟨?_, (h.row.take n).frame (Below.heap_setCell _ _ _ _ (Ne.symm h.ne)), h.ne, by have := h.len; simp; omega⟩
  rw [heap_setCell_same _ _ _ _ _ _ _ h.head]
  have : (ps.take n).length = n := by simp; omega
  rw [this]
  rfl
set_option maxRecDepth 100000 in
set_option maxHeartbeats 8000000 in
theorem pop_none (H : Nat) (w : World) (hd : w.heap[H]? = some (.cells #[.func (.func 35) #[] #[], .slice none 0 0] 74 (0, 0)) ∨ ∃ g cap, w.heap[H]? = some (.cells #[.func (.func 35) #[] #[], .slice (some ⟨g, 0, none⟩) 0 cap] 74 (0, 0))) :
    Calls Try.prog 37 #[.pointer (some ⟨H, 0, none⟩)] w fun e w' => e = .returned (.tuple #[.int .i64 0, .bool false]) ∧ Below w.heap.size w w' := by
  have g1 : ∃ a c, w.cell? ⟨H, 1, none⟩ = some (.slice a 0 c) := by
    rcases hd with h | ⟨g, cap, h⟩
    · exact ⟨none, 0, by simp [World.cell?, h]⟩
    · exact ⟨some ⟨g, 0, none⟩, cap, by simp [World.cell?, h]⟩
  clear hd
  obtain ⟨a, c, g1⟩ := g1
  go_enter Try.func37, Try.ntmps37
  go_wp2_with fail
  go_ret2
  exact ⟨rfl, Below.refl _ _⟩
set_option maxRecDepth 100000 in
set_option maxHeartbeats 8000000 in
theorem pop_any (H g cap : Nat) (ps : List Nat) (w : World) (hn : 0 < ps.length) (h : HeapIs w H g cap ps) (hp : IsHeap ps) :
    Calls Try.prog 37 #[.pointer (some ⟨H, 0, none⟩)] w fun e w' => e = .returned (.tuple #[.int .i64 ((at' ps 0 : Nat) : Int), .bool true]) ∧
      ∃ qs, HeapIs w' H g cap qs ∧ qs.Perm (left ps) ∧ IsHeap qs ∧ (∀ k, k < w.heap.size → k ≠ H → k ≠ g → w'.heap[k]? = w.heap[k]?) ∧ w'.os = w.os ∧ w'.tape = w.tape ∧ w'.output = w.output ∧ w.heap.size ≤ w'.heap.size := by
  have hlen := h.len
  have lg := h.row.lt
  have lH := h.ltH
  obtain ⟨n, hpn⟩ : ∃ n, ps.length = n + 1 := ⟨ps.length - 1, by omega⟩
  obtain ⟨c0, f0⟩ := h.row.cell 0 hn
  obtain ⟨d0, e0⟩ := h.row.cell n (by omega)
  obtain ⟨g0, g1, gf⟩ := h.cell
  rw [hpn] at g1
  have HN : Hid _ := hpn
  have HP : Hid (IsHeap ps) := hp
  have HH : Hid _ := h
  clear hpn hp h
  have hn1 : ((n : Int) + 1 == 0) = false := beq_eq_false_iff_ne.2 (by omega)
  have hn2 : (0 : Int) < (n : Int) + 1 := by omega
  have hnw : IntKind.i64.wrap (n : Int) = (n : Int) := by rw [IntKind.wrap_i64]; have := HN.out; omega
  go_enter Try.func37, Try.ntmps37
  go_wp2_with fail
  go_quiet (fail)
  have h1 : HeapIs (w.drewN nq) H g cap ps := HH.out.below (bdrewN (Below.refl _ _) nq)
  have b1 : Hid (Below w.heap.size w (w.drewN nq)) := bdrewN (Below.refl _ _) nq
  generalize w.drewN nq = W1 at *
  clear c0 f0 d0 e0 g0 g1 gf
  have fr1 : ∀ k, k < w.heap.size → W1.heap[k]? = w.heap[k]? := fun k hk => b1.out.block k hk
  obtain ⟨c0, f0⟩ := h1.row.cell 0 hn
  obtain ⟨d0, e0⟩ := h1.row.cell n (by have := HN.out; omega)
  obtain ⟨g0, g1, gf⟩ := h1.cell
  rw [HN.out] at g1
  go_wp2_with fail
  have ir : (n : Int) < (n : Int) + 1 := by omega
  go_region
  have h2 : HeapIs (W1.setCell ⟨g, 0, none⟩ (.int .i64 ((at' ps n : Nat) : Int))).drew H g cap (ps.set 0 (at' ps n)) := (h1.put 0 (at' ps n)).below (Below.drew (Below.refl _ _))
  have gw2 : W1.grownBy (W1.setCell ⟨g, 0, none⟩ (.int .i64 ((at' ps n : Nat) : Int))).drew (some g) := grown_drew (grown_setCell (grown_refl _ _))
  generalize (W1.setCell ⟨g, 0, none⟩ (.int .i64 ((at' ps n : Nat) : Int))).drew = W2 at *
  clear c0 f0 d0 e0 g0 g1 gf
  obtain ⟨d0, e0⟩ := h2.row.cell n (by have := HN.out; simp; omega)
  obtain ⟨g0, g1, gf⟩ := h2.cell
  rw [List.length_set, HN.out] at g1
  have h3 : HeapIs (W2.setCell ⟨g, n, none⟩ (.int .i64 0)) H g cap ((ps.set 0 (at' ps n)).set n 0) := h2.put n 0
  have gw3 : W2.grownBy (W2.setCell ⟨g, n, none⟩ (.int .i64 0)) (some g) := grown_setCell (grown_refl _ _)
  obtain ⟨k0, k1, kf⟩ := h3.cell
  rw [List.length_set, List.length_set, HN.out] at k1
  have h4 := h3.cut (n := n) (by have := HN.out; simp; omega)
  have HL : Hid (left ps = ((ps.set 0 (at' ps n)).set n 0).take n) := by
    unfold Hid left
    rw [HN.out]
    rfl
  rw [← HL.out] at h4
  have hcapn : (n : Int) ≤ (cap : Int) := by
    obtain ⟨_, _, hc, _⟩ := h3.row
    have := HN.out
    simp at hc
    omega
  have H4 : Hid _ := h4
  have H3 : Hid _ := h3
  have G2 : Hid _ := gw2
  have G3 : Hid _ := gw3
  clear h4 h3 gw2 gw3 h1 h2
  go_wp2_with fail
  clear d0 e0 g0 g1 gf k0 k1 kf
  generalize (W2.setCell ⟨g, n, none⟩ (.int .i64 0)) = W3 at *
  have K := sink_any H g 0 cap (left ps) _ (by omega) H4.out (left_down HP.out)
  rw [show (((0 : Nat) : Int)) = 0 from rfl] at K
  refine K.mono ?_
  rintro e w5 ⟨rfl, qs, q1, q2, q3, q4⟩
  have frz : Hid (∀ k, k < w.heap.size → k ≠ H → k ≠ g → w5.heap[k]? = w.heap[k]?) := fun k hk h1 h2 => by
    have l1 : k < W1.heap.size := by have := b1.out.size; omega
    have l2 : k < W2.heap.size := by have := G2.out.size; omega
    have l3 : k < W3.heap.size := by have := G3.out.size; omega
    rw [q4.block k (by simp [World.setCell]; omega) (by simpa using h2), Below.heap_setCell _ _ _ _ h1, G3.out.block k l2 (by simpa using h2), G2.out.block k l1 (by simpa using h2), fr1 k hk]
  have ios : Hid (w5.os = w.os ∧ w5.tape = w.tape ∧ w5.output = w.output ∧ w.heap.size ≤ w5.heap.size) := by
    refine ⟨(q4.os.trans (G3.out.os.trans (G2.out.os.trans b1.out.os))), (q4.tape.trans (G3.out.tape.trans (G2.out.tape.trans b1.out.tape))), (q4.output.trans (G3.out.output.trans (G2.out.output.trans b1.out.output))), ?_⟩
    have := q4.size
    have := G3.out.size
    have := G2.out.size
    have := b1.out.size
    simp [World.setCell] at *
    omega
  have Q1 : Hid _ := q1
  clear q1 q4 K
  go_wp2_with fail
  go_ret2
  exact ⟨rfl, qs, Q1.out, q2, q3, frz.out, ios.out⟩
end Go.Proofs.Ytkklgnfimkojlaa.Gi
