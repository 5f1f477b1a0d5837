/-
  Contracts: Cycle.
-/
import Derived.Test.YtidbbkpgmcheiaaBD
namespace Go.Proofs.Ytidbbkpgmcheiaa
open Go.RowKit
open Nm Wm Dm Bm Ry
attribute [local go_sem ↓] Go.wp_at_zero Go.wp_at_succ

/-- A ring that costs less than 0. -/
structure Rng (N : Nat) (es : List E) (l : List Int) : Prop where
  l1 : 1 ≤ l.length
  lN : l.length ≤ N
  apart : ∀ i j, i < j → j < l.length → l.getD i 0 ≠ l.getD j 0
  in_ : ∀ x ∈ l, 0 ≤ x ∧ x < N
  cost : ∃ c, wc es (l ++ [l.getD 0 0]) = some c ∧ c < 0
theorem rg_rng {N : Nat} {es : List E} {q : St} {s m : Nat} (h : Rg N es q s m) : Rng N es (cyc (fun k => itr (fun v => (q.a v).toNat) (N + k) s) m).reverse := by
  have hlen : (cyc (fun k => itr (fun v => (q.a v).toNat) (N + k) s) m).reverse.length = m := by rw [List.length_reverse, cyc_length]
  have hit : ∀ k, itr (fun v => (q.a v).toNat) (N + k) s = itr (fun v => (q.a v).toNat) k (itr (fun v => (q.a v).toNat) N s) := fun k => by rw [Nat.add_comm, itr_add]
  refine ⟨by rw [hlen]; exact h.m1, by rw [hlen]; exact h.mN, ?_, ?_, ?_⟩
  · intro i j hij hj
    rw [hlen] at hj
    rw [rev_at _ (by omega), rev_at _ hj]
    intro he
    have he' : itr (fun v => (q.a v).toNat) (N + (m - 1 - j)) s = itr (fun v => (q.a v).toNat) (N + (m - 1 - i)) s := by
      exact (Int.ofNat.inj he).symm
    rw [hit, hit] at he'
    exact ring_apart (m := m) (by rw [← hit]; exact h.back) (fun k h1 h2 => by rw [← hit]; exact h.first k h1 h2) (show m - 1 - j < m - 1 - i by omega) (by omega) he'
  · intro x hx
    rw [List.mem_reverse] at hx
    unfold cyc at hx
    obtain ⟨k, _, rfl⟩ := List.mem_map.1 hx
    have := (h.go (N + k)).1
    show 0 ≤ ((itr (fun v => (q.a v).toNat) (N + k) s : Nat) : Int) ∧ ((itr (fun v => (q.a v).toNat) (N + k) s : Nat) : Int) < N
    omega
  · exact ring_cost (f := fun k => itr (fun v => (q.a v).toNat) (N + k) s) (d := q.d) (t := q.t) (fun k => h.edge (N + k)) h.m1 h.back

set_option maxRecDepth 100000 in
set_option maxHeartbeats 8000000 in
theorem cycle_net (n : Int) (v : Value) (es : List E) (w : World) (hv : SlE w v es) (hlen : es.length ≤ 9223372036854775807) (hc : nck n es ≠ 0) :
    Calls Try.prog 18 #[.agg #[.int .i64 n, v]] w fun e w' => e = .returned (.tuple #[.slice none 0 0, .int .i64 (nck n es)]) ∧ Below w.heap.size w w' := by
  obtain ⟨a0, c0, rfl⟩ := hv.val
  have HV : Hid _ := hv
  have hz : (nck n es != 0) = true := by simp [hc]
  clear hv hc
  go_enter Try.func18, Try.ntmps18
  go_wp2_with fail
  have P0 : Hid _ := box2_new w n (.slice a0 es.length c0) 24
  have B0 : Hid (Below w.heap.size w (w.alloc (.cells #[.int .i64 n, .slice a0 es.length c0] 24))) := balloc (Below.refl _ _) _
  generalize w.alloc (.cells #[.int .i64 n, .slice a0 es.length c0] 24) = W0 at *
  refine (ncheck_any n _ es W0 (HV.out.below B0.out) hlen).mono ?_
  rintro e w1 ⟨rfl, b1⟩
  clear P0
  go_wp2_with fail
  go_ret2
  exact ⟨rfl, bthen B0.out b1⟩
set_option maxRecDepth 100000 in
set_option maxHeartbeats 8000000 in
theorem cycle_none (N : Nat) (v : Value) (es : List E) (w : World) (hv : SlE w v es) (hb : Rnt N es) (hs : (rns es (fun _ => 0) N).s = -1) :
    Calls Try.prog 18 #[.agg #[.int .i64 N, v]] w fun e w' => e = .returned (.tuple #[.slice none 0 0, .int .i64 5]) ∧ Below w.heap.size w w' := by
  obtain ⟨a0, c0, rfl⟩ := hv.val
  have HV : Hid _ := hv
  have HB : Hid _ := hb
  have HC : Hid _ := hb.nck
  have HSK : Hid _ := hs
  have hn1 := hb.n1
  have hn64 := hb.n64
  have hlen : es.length ≤ 9223372036854775807 := by have := hb.len; omega
  have hmk := made_ur N hn64
  clear hv hb hs
  go_enter Try.func18, Try.ntmps18
  go_wp2_with fail
  have P0 : Hid _ := box2_new w (N : Int) (.slice a0 es.length c0) 24
  have B0 : Hid (Below w.heap.size w (w.alloc (.cells #[.int .i64 N, .slice a0 es.length c0] 24))) := balloc (Below.refl _ _) _
  generalize w.alloc (.cells #[.int .i64 N, .slice a0 es.length c0] 24) = W0 at *
  refine (ncheck_any (N : Int) _ es W0 (HV.out.below B0.out) hlen).mono ?_
  rintro e w1 ⟨rfl, b1⟩
  rw [HC.out]
  have B1 : Hid (Below w.heap.size w w1) := bthen B0.out b1
  have P1 : Hid _ := P0.out.below b1
  obtain ⟨p0, p1⟩ := P1.out
  have LTB : Hid (w.heap.size < w1.heap.size) := World.block_lt_of_cell? w1 ⟨w.heap.size, 0, none⟩ p0
  have U2 : Hid (Ur (w1.alloc (.cells (Array.ofFn (n := N) fun _ => .int .i64 0) 3)) w1.heap.size N (fun _ => 0)) := ⟨heap_alloc_new _ _⟩
  have B2 : Hid (Below w.heap.size w (w1.alloc (.cells (Array.ofFn (n := N) fun _ => .int .i64 0) 3))) := balloc B1.out _
  have K0 : Hid _ := kept_alloc (x := .cells (Array.ofFn (n := N) fun _ => .int .i64 0) 3) p0
  have K1 : Hid _ := kept_alloc (x := .cells (Array.ofFn (n := N) fun _ => .int .i64 0) 3) p1
  have Z2 : Hid ((w1.alloc (.cells (Array.ofFn (n := N) fun _ => Value.int .i64 0) 3)).heap.size = w1.heap.size + 1) := by unfold Hid; simp
  clear b1 P0 B0
  go_wp2_with fail
  clear p0 p1 hmk
  generalize w1.alloc (.cells (Array.ofFn (n := N) fun _ => .int .i64 0) 3) = W2 at *
  refine (begin_any N w1.heap.size (fun _ => 0) w W2 hn1 hn64 U2.out B1.out.size B2.out).mono ?_
  rintro e w3 ⟨B, A, rfl, hA, s2⟩
  have S2 : Hid _ := s2
  have YA : Hid (w.heap.size ≠ A) := by have := LTB.out; have := Z2.out; unfold Hid; omega
  have YG : Hid (w.heap.size ≠ w1.heap.size) := by have := LTB.out; unfold Hid; omega
  have q0 := s2.cell K0.out YG.out YA.out
  have q1 := s2.cell K1.out YG.out YA.out
  clear s2 hA
  go_wp2_with fail
  clear q0 q1
  refine (run_any N B w1.heap.size A _ es (fun _ => 0) w W2 w3 HV.out HB.out (zero_zero N) S2.out).mono ?_
  rintro e w4 ⟨rfl, F2, s4⟩
  rw [HSK.out]
  have S4 : Hid _ := s4
  clear s4
  go_wp2_with fail
  go_ret2
  exact ⟨rfl, S4.out.below⟩
set_option maxRecDepth 100000 in
set_option maxHeartbeats 8000000 in
theorem cycle_yes (N : Nat) (v : Value) (es : List E) (w : World) (hv : SlE w v es) (hb : Rnt N es) (hs : (rns es (fun _ => 0) N).s ≠ -1) :
    Calls Try.prog 18 #[.agg #[.int .i64 N, v]] w fun e w' => ∃ g cap l, Rng N es l ∧ e = .returned (.tuple #[.slice (some ⟨g, 0, none⟩) l.length cap, .int .i64 0]) ∧ Is w' w.heap.size (.slice (some ⟨g, 0, none⟩) l.length cap) l ∧ Below w.heap.size w w' := by
  obtain ⟨a0, c0, rfl⟩ := hv.val
  have HV : Hid _ := hv
  have HB : Hid _ := hb
  have HC : Hid _ := hb.nck
  have HSK : Hid _ := hs
  have hn1 := hb.n1
  have hn64 := hb.n64
  have hlen : es.length ≤ 9223372036854775807 := by have := hb.len; omega
  have hmk := made_ur N hn64
  obtain ⟨s, m, hsm, hrg⟩ := ring_is hb (fun _ => 0) hs
  have HRG : Hid _ := hrg
  have HSM : Hid _ := hsm
  clear hrg hsm
  clear hv hb hs
  go_enter Try.func18, Try.ntmps18
  go_wp2_with fail
  have P0 : Hid _ := box2_new w (N : Int) (.slice a0 es.length c0) 24
  have B0 : Hid (Below w.heap.size w (w.alloc (.cells #[.int .i64 N, .slice a0 es.length c0] 24))) := balloc (Below.refl _ _) _
  generalize w.alloc (.cells #[.int .i64 N, .slice a0 es.length c0] 24) = W0 at *
  refine (ncheck_any (N : Int) _ es W0 (HV.out.below B0.out) hlen).mono ?_
  rintro e w1 ⟨rfl, b1⟩
  rw [HC.out]
  have B1 : Hid (Below w.heap.size w w1) := bthen B0.out b1
  have P1 : Hid _ := P0.out.below b1
  obtain ⟨p0, p1⟩ := P1.out
  have LTB : Hid (w.heap.size < w1.heap.size) := World.block_lt_of_cell? w1 ⟨w.heap.size, 0, none⟩ p0
  have U2 : Hid (Ur (w1.alloc (.cells (Array.ofFn (n := N) fun _ => .int .i64 0) 3)) w1.heap.size N (fun _ => 0)) := ⟨heap_alloc_new _ _⟩
  have B2 : Hid (Below w.heap.size w (w1.alloc (.cells (Array.ofFn (n := N) fun _ => .int .i64 0) 3))) := balloc B1.out _
  have K0 : Hid _ := kept_alloc (x := .cells (Array.ofFn (n := N) fun _ => .int .i64 0) 3) p0
  have K1 : Hid _ := kept_alloc (x := .cells (Array.ofFn (n := N) fun _ => .int .i64 0) 3) p1
  have Z2 : Hid ((w1.alloc (.cells (Array.ofFn (n := N) fun _ => Value.int .i64 0) 3)).heap.size = w1.heap.size + 1) := by unfold Hid; simp
  clear b1 P0 B0
  go_wp2_with fail
  clear p0 p1 hmk
  generalize w1.alloc (.cells (Array.ofFn (n := N) fun _ => .int .i64 0) 3) = W2 at *
  refine (begin_any N w1.heap.size (fun _ => 0) w W2 hn1 hn64 U2.out B1.out.size B2.out).mono ?_
  rintro e w3 ⟨B, A, rfl, hA, s2⟩
  have S2 : Hid _ := s2
  have YA : Hid (w.heap.size ≠ A) := by have := LTB.out; have := Z2.out; unfold Hid; omega
  have YG : Hid (w.heap.size ≠ w1.heap.size) := by have := LTB.out; unfold Hid; omega
  have q0 := s2.cell K0.out YG.out YA.out
  have q1 := s2.cell K1.out YG.out YA.out
  clear s2 hA
  go_wp2_with fail
  clear q0 q1
  refine (run_any N B w1.heap.size A _ es (fun _ => 0) w W2 w3 HV.out HB.out (zero_zero N) S2.out).mono ?_
  rintro e w4 ⟨rfl, F2, s4⟩
  rw [HSM.out]
  have S4 : Hid _ := s4
  clear s4
  have hsb : ((s : Int) == -1) = false := by simp
  go_wp2_with fail
  refine (ring_any N B w1.heap.size A m s _ _ _ w F2 w4 S4.out hn64 HRG.out.go HRG.out.m1 HRG.out.mN HRG.out.back HRG.out.first).mono ?_
  rintro e w5 ⟨g, cap, rfl, is5, b5⟩
  have I5 : Hid _ := is5
  have B5 : Hid (Below w.heap.size w w5) := b5
  clear is5 b5
  go_wp2_with fail
  go_ret2
  have hl : (cyc (fun k => itr (fun v => ((rns es (fun _ => 0) N).a v).toNat) (N + k) s) m).reverse.length = m := by rw [List.length_reverse, cyc_length]
  exact ⟨g, cap, _, rg_rng HRG.out, by rw [hl]; rfl, by rw [hl]; exact I5.out, B5.out⟩
end Go.Proofs.Ytidbbkpgmcheiaa
