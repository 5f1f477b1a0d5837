/-
  Contracts: run, settled.
-/
import Derived.Test.YtlmichnnpameeaaBA1
import Derived.Test.YtlmichnnpameeaaBR
namespace Go.Proofs.Ytlmichnnpameeaa
open Go.RowKit
open Nm Wm Dm Bm Ry
attribute [local go_sem ↓] Go.wp_at_zero Go.wp_at_succ

set_option maxRecDepth 100000 in
set_option maxHeartbeats 8000000 in
theorem run_any (N B G A : Nat) (v : Value) (es : List E) (d0 : Nat → Int) (w0 F w : World) (hv : SlE w0 v es) (hb : Rnt N es) (h0 : ∀ v, v < N → 0 ≤ d0 v ∧ d0 v ≤ far) (hst : Sb w0 F B G A N d0 (fun _ => -1) w) :
    Calls Try.prog 59 #[.pointer (some ⟨B, 0, none⟩), .agg #[.int .i64 N, v]] w fun e w' => e = .returned (.int .i64 (rns es d0 N).s) ∧ ∃ F', Sb w0 F' B G A N (rns es d0 N).d (rns es d0 N).a w' := by
  obtain ⟨a0, c0, rfl⟩ := hv.val
  have HV : Hid _ := hv
  have HB : Hid _ := hb
  have HS : Hid _ := hst
  have H0 : Hid _ := h0
  have hn1 := hb.n1
  have hn64 := hb.n64
  have hlen := hb.len
  clear hv hb hst h0
  go_enter Try.func59, Try.ntmps59
  go_wp2_with fail
  have P0 : Hid _ := box2_new w (N : Int) (.slice a0 es.length c0) 24
  have S0 : Hid _ := (HS.out.kept (balloc (Below.refl _ _) (.cells #[.int .i64 N, .slice a0 es.length c0] 24))).rebase
  have YG : Hid (w.heap.size ≠ G) := by have := HS.out.dist.lt; unfold Hid; omega
  have YA : Hid (w.heap.size ≠ A) := by have := HS.out.ahead.lt; unfold Hid; omega
  generalize w.alloc (.cells #[.int .i64 N, .slice a0 es.length c0] 24) = W0 at *
  go_loopw [8, 5] (fun z u wr => ∃ r : Nat, z = .int .i64 r ∧ r ≤ N ∧ u = .int .i64 (rns es d0 r).s ∧ Sb w0 W0 B G A N (rns es d0 r).d (rns es d0 r).a wr) (fun z _ _ => N - (intOf z).toNat)
  case atStart => exact ⟨0, rfl, Nat.zero_le _, rfl, S0.out⟩
  case round =>
    clear S0 HS
    obtain ⟨r, rfl, hr, rfl, hst⟩ := hrel
    have ST : Hid _ := hst
    clear hst
    by_cases hlt : r < N
    · have hii : (r : Int) < (N : Int) := by omega
      have p0 := ST.out.cell P0.out.g0 YG.out YA.out
      have p1 := ST.out.cell P0.out.g1 YG.out YA.out
      have HRD : Hid (∀ v, v < N → -400000000 ≤ (rns es d0 r).d v ∧ (rns es d0 r).d v ≤ far) := fun v hv => by
        have h1 := rns_low HB.out (fun v hv => (H0.out v hv).1) r v hv
        have h2 := rns_down es d0 r v
        have h3 := (H0.out v hv).2
        omega
      have HNX : Hid (rns es d0 (r + 1) = rnd (r + 1) es (rns es d0 r) es.length) := rfl
      go_wp2_with fail
      clear p0 p1
      refine (round_any N B G A (r + 1) _ es (rns es d0 r) w0 W0 wr HV.out HB.out ST.out HRD.out).mono ?_
      rintro e w2 ⟨rfl, s2⟩
      rw [← HNX.out] at s2 ⊢
      have S2 : Hid _ := s2
      clear s2
      by_cases hs : (rns es d0 (r + 1)).s = -1
      · have hsb : ((rns es d0 (r + 1)).s == -1) = true := by simp [hs]
        have HN : Hid (rns es d0 N = rns es d0 (r + 1)) := by
          have := (rns_stop HB.out hs).2 (N - (r + 1))
          rw [show r + 1 + (N - (r + 1)) = N by omega] at this
          exact this
        clear hs
        go_wp2_with fail
        go_ret
        exact ⟨ret_int (by rw [HN.out]), W0, by rw [HN.out]; exact S2.out⟩
      · have hsb : ((rns es d0 (r + 1)).s == -1) = false := by simp [hs]
        clear hs
        go_wp2_with fail
        go_roundw
        case rel => exact ⟨r + 1, by go_num, by omega, rfl, S2.out⟩
        case measure => simp [intOf]; omega
    · have hie : r = N := by omega
      subst hie
      go_wp2_with fail
      go_ret
      exact ⟨rfl, W0, ST.out⟩

set_option maxRecDepth 100000 in
set_option maxHeartbeats 8000000 in
theorem settled_yes (N G : Nat) (v : Value) (es : List E) (d0 : Nat → Int) (w0 w : World) (hv : SlE w0 v es) (hb : Rnt N es) (h0 : ∀ v, v < N → 0 ≤ d0 v ∧ d0 v ≤ far) (hu : Ur w G N d0) (oG : w0.heap.size ≤ G) (hbl : Below w0.heap.size w0 w) (hs : (rns es d0 N).s = -1) :
    Calls Try.prog 48 #[.agg #[.int .i64 N, v], .slice (some ⟨G, 0, none⟩) N N] w fun e w' => e = .returned (.tuple #[.slice (some ⟨G, 0, none⟩) N N, .int .i64 0]) ∧ Ur w' G N (rns es d0 N).d ∧ Below w0.heap.size w0 w' := by
  obtain ⟨a0, c0, rfl⟩ := hv.val
  have HV : Hid _ := hv
  have HB : Hid _ := hb
  have HU : Hid _ := hu
  have H0 : Hid _ := h0
  have HBL : Hid (Below w0.heap.size w0 w) := hbl
  have OG : Hid (w0.heap.size ≤ G) := oG
  have HSK : Hid _ := hs
  have hn1 := hb.n1
  have hn64 := hb.n64
  clear hv hb hu h0 hbl oG hs
  go_enter Try.func48, Try.ntmps48
  go_wp2_with fail
  have P0 : Hid _ := box2_new w (N : Int) (.slice a0 es.length c0) 24
  have B0 : Hid (Below w0.heap.size w0 (w.alloc (.cells #[.int .i64 N, .slice a0 es.length c0] 24))) := balloc HBL.out _
  have U0 : Hid _ := HU.out.below (balloc (Below.refl _ _) (.cells #[.int .i64 N, .slice a0 es.length c0] 24))
  have YG : Hid (w.heap.size ≠ G) := by have := HU.out.lt; unfold Hid; omega
  generalize w.alloc (.cells #[.int .i64 N, .slice a0 es.length c0] 24) = W0 at *
  refine (begin_any N G d0 w0 W0 hn1 hn64 U0.out OG.out B0.out).mono ?_
  rintro e w1 ⟨B, A, rfl, hA, s1⟩
  have S1 : Hid _ := s1
  have YA : Hid (w.heap.size ≠ A) := by
    have h1 := World.block_lt_of_cell? W0 ⟨w.heap.size, 0, none⟩ P0.out.g0
    have h2 : w.heap.size < W0.heap.size := h1
    unfold Hid; omega
  have p0 := s1.cell P0.out.g0 YG.out YA.out
  have p1 := s1.cell P0.out.g1 YG.out YA.out
  clear s1
  go_wp2_with fail
  clear p0 p1
  refine (run_any N B G A _ es d0 w0 W0 w1 HV.out HB.out H0.out S1.out).mono ?_
  rintro e w2 ⟨rfl, F2, s2⟩
  rw [HSK.out]
  have S2 : Hid _ := s2
  obtain ⟨q0, q1⟩ := s2.cells
  clear s2
  go_wp2_with fail
  go_ret2
  exact ⟨rfl, S2.out.dist, S2.out.below⟩
set_option maxRecDepth 100000 in
set_option maxHeartbeats 8000000 in
theorem settled_no (N G : Nat) (v : Value) (es : List E) (d0 : Nat → Int) (w0 w : World) (hv : SlE w0 v es) (hb : Rnt N es) (h0 : ∀ v, v < N → 0 ≤ d0 v ∧ d0 v ≤ far) (hu : Ur w G N d0) (oG : w0.heap.size ≤ G) (hbl : Below w0.heap.size w0 w) (hs : (rns es d0 N).s ≠ -1) :
    Calls Try.prog 48 #[.agg #[.int .i64 N, v], .slice (some ⟨G, 0, none⟩) N N] w fun e w' => e = .returned (.tuple #[.slice none 0 0, .int .i64 6]) ∧ Below w0.heap.size w0 w' := by
  obtain ⟨a0, c0, rfl⟩ := hv.val
  have HV : Hid _ := hv
  have HB : Hid _ := hb
  have HU : Hid _ := hu
  have H0 : Hid _ := h0
  have HBL : Hid (Below w0.heap.size w0 w) := hbl
  have OG : Hid (w0.heap.size ≤ G) := oG
  have hsb : ((rns es d0 N).s != -1) = true := by simp [hs]
  have hn1 := hb.n1
  have hn64 := hb.n64
  clear hv hb hu h0 hbl oG hs
  go_enter Try.func48, Try.ntmps48
  go_wp2_with fail
  have P0 : Hid _ := box2_new w (N : Int) (.slice a0 es.length c0) 24
  have B0 : Hid (Below w0.heap.size w0 (w.alloc (.cells #[.int .i64 N, .slice a0 es.length c0] 24))) := balloc HBL.out _
  have U0 : Hid _ := HU.out.below (balloc (Below.refl _ _) (.cells #[.int .i64 N, .slice a0 es.length c0] 24))
  have YG : Hid (w.heap.size ≠ G) := by have := HU.out.lt; unfold Hid; omega
  generalize w.alloc (.cells #[.int .i64 N, .slice a0 es.length c0] 24) = W0 at *
  refine (begin_any N G d0 w0 W0 hn1 hn64 U0.out OG.out B0.out).mono ?_
  rintro e w1 ⟨B, A, rfl, hA, s1⟩
  have S1 : Hid _ := s1
  have YA : Hid (w.heap.size ≠ A) := by
    have h1 := World.block_lt_of_cell? W0 ⟨w.heap.size, 0, none⟩ P0.out.g0
    have h2 : w.heap.size < W0.heap.size := h1
    unfold Hid; omega
  have p0 := s1.cell P0.out.g0 YG.out YA.out
  have p1 := s1.cell P0.out.g1 YG.out YA.out
  clear s1
  go_wp2_with fail
  clear p0 p1
  refine (run_any N B G A _ es d0 w0 W0 w1 HV.out HB.out H0.out S1.out).mono ?_
  rintro e w2 ⟨rfl, F2, s2⟩
  have S2 : Hid _ := s2
  clear s2
  go_wp2_with fail
  go_ret2
  exact ⟨rfl, S2.out.below⟩
end Go.Proofs.Ytlmichnnpameeaa
