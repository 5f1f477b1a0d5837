/-
  Proved: for every two ratios a and b, the law felllaw.RatioCounts returns true and leaves its arguments as they read. No condition.
-/
import Derived.Test.YtihicidfpfkknaaWalkF
import Derived.ProofKit
import Derived.OpenShut
import Derived.Lib.SmallJoins
namespace Go.Proofs.Ytihicidfpfkknaa.Counts
open Go.ChangeShapes Go.WideShapes Go.ChangeAt Go.RowKit Go.Joins
open Pl
attribute [local go_sem ↓] Go.wp_at_zero Go.wp_at_succ

set_option maxHeartbeats 1000000 in
theorem told_any (n d : Int) (hd : 1 ≤ d) (w : World) :
    Calls Try.prog 16 #[.agg #[.int .i64 (sN n d), .int .i64 (sD n d)], .int .i64 (sE n d), .agg #[.int .i64 (ln n d), .int .i64 (ld n d)]] w fun e w' => e = .returned (.bool true) ∧ Below w.heap.size w w' := by
  have H0 := ref_any (ln n d) (ld n d)
  cases hi : inb (ln n d) (ld n d)
  · have e1 : sN n d = 0 := by unfold sN; simp [hi]
    have e2 : sD n d = 0 := by unfold sD; simp [hi]
    have e3 : sE n d = 2 := by unfold sE; simp [hi]
    rw [e1, e2, e3]
    rw [chk_no (isr_of_inb hi)] at H0
    have H1 : Hid _ := H0
    clear H0 e1 e2 e3 hi
    go_enter Try.func16, Try.ntmps16
    go_wp2_with fail
    refine (H1.out _).mono ?_
    rintro e w1 ⟨rfl, hb1⟩
    have r0 : w1.cell? ⟨w.heap.size, 0, none⟩ = some (.int .i64 0) := kept hb1 (by go_simp)
    have r1 : w1.cell? ⟨w.heap.size, 1, none⟩ = some (.int .i64 0) := kept hb1 (by go_simp)
    go_wp2
    go_ret
    exact ⟨rfl, by repeat (first | exact Below.refl _ _ | refine bthen ?_ hb1 | refine balloc ?_ _ )⟩
  · have e1 : sN n d = ln n d := by unfold sN; simp [hi]
    have e2 : sD n d = ld n d := by unfold sD; simp [hi]
    have e3 : sE n d = 0 := by unfold sE; simp [hi]
    rw [e1, e2, e3]
    obtain ⟨h1, h2, h3, h4⟩ := inb_true hi
    rw [chk_ok (isr_mk h1 h2 h3 h4 (low_coprime n d (by omega)))] at H0
    have H1 : Hid _ := H0
    clear H0 e1 e2 e3 hi
    go_enter Try.func16, Try.ntmps16
    go_wp2_with fail
    refine (H1.out _).mono ?_
    rintro e w1 ⟨rfl, hb1⟩
    have r0 : w1.cell? ⟨w.heap.size, 0, none⟩ = some (.int .i64 (ln n d)) := kept hb1 (by go_simp)
    have r1 : w1.cell? ⟨w.heap.size, 1, none⟩ = some (.int .i64 (ld n d)) := kept hb1 (by go_simp)
    have r2 : w1.cell? ⟨w.heap.size + 1, 0, none⟩ = some (.int .i64 (ln n d)) := kept hb1 (by go_simp)
    have r3 : w1.cell? ⟨w.heap.size + 1, 1, none⟩ = some (.int .i64 (ld n d)) := kept hb1 (by go_simp)
    go_wp2
    go_ret
    exact ⟨rfl, by repeat (first | exact Below.refl _ _ | refine bthen ?_ hb1 | refine balloc ?_ _ )⟩

set_option maxHeartbeats 2000000 in
theorem walk_no (a0 a1 b0 b1 : Int) (w : World) (h : ok2 a0 a1 b0 b1 = false) :
    Calls Try.prog 4 #[.agg #[.int .i64 a0, .int .i64 a1], .agg #[.int .i64 b0, .int .i64 b1]] w fun e w' => e = .returned (.bool true) ∧ Below w.heap.size w w' := by
  have K1 := cmp_any a0 a1 b0 b1
  have K2 := add_any a0 a1 b0 b1
  have K3 := mul_any a0 a1 b0 b1
  rw [chk2_no h, show cV a0 a1 b0 b1 = 0 from by unfold cV; simp [h]] at K1
  rw [show adN a0 a1 b0 b1 = 0 from by unfold adN; simp [h], show adD a0 a1 b0 b1 = 0 from by unfold adD; simp [h], show adE a0 a1 b0 b1 = 3 from by unfold adE; simp [h]] at K2
  rw [show muN a0 a1 b0 b1 = 0 from by unfold muN; simp [h], show muD a0 a1 b0 b1 = 0 from by unfold muD; simp [h], show muE a0 a1 b0 b1 = 3 from by unfold muE; simp [h]] at K3
  have K4 := ref_any a0 a1
  have K5 := ref_any b0 b1
  have L1 : Hid _ := K1
  have L2 : Hid _ := K2
  have L3 : Hid _ := K3
  clear K1 K2 K3
  cases h1 : isr a0 a1
  · rw [chk_no h1] at K4
    have L4 : Hid _ := K4
    clear K4 K5 h h1
    go_enter Try.func4, Try.ntmps4
    go_wp2_with fail
    refine (L1.out _).mono ?_
    rintro e w1 ⟨rfl, hb1⟩
    have f1a0 : w1.cell? ⟨w.heap.size, 0, none⟩ = some (.int .i64 a0) := kept hb1 (by go_simp)
    have f1a1 : w1.cell? ⟨w.heap.size, 1, none⟩ = some (.int .i64 a1) := kept hb1 (by go_simp)
    have f1b0 : w1.cell? ⟨w.heap.size + 1, 0, none⟩ = some (.int .i64 b0) := kept hb1 (by go_simp)
    have f1b1 : w1.cell? ⟨w.heap.size + 1, 1, none⟩ = some (.int .i64 b1) := kept hb1 (by go_simp)
    go_wp2_with fail
    refine (L2.out _).mono ?_
    rintro e w2 ⟨rfl, hb2⟩
    have f2a0 := kept hb2 f1a0
    have f2a1 := kept hb2 f1a1
    have f2b0 := kept hb2 f1b0
    have f2b1 := kept hb2 f1b1
    have g2a0 := kept_alloc (x := .cells #[.int .i64 0, .int .i64 0] 23) f2a0
    have g2a1 := kept_alloc (x := .cells #[.int .i64 0, .int .i64 0] 23) f2a1
    have g2b0 := kept_alloc (x := .cells #[.int .i64 0, .int .i64 0] 23) f2b0
    have g2b1 := kept_alloc (x := .cells #[.int .i64 0, .int .i64 0] 23) f2b1
    have g2x0 : (w2.alloc (.cells #[.int .i64 0, .int .i64 0] 23)).cell? ⟨w2.heap.size, 0, none⟩ = some (.int .i64 0) := by go_simp
    have g2x1 : (w2.alloc (.cells #[.int .i64 0, .int .i64 0] 23)).cell? ⟨w2.heap.size, 1, none⟩ = some (.int .i64 0) := by go_simp
    go_wp2_with fail
    refine (L3.out _).mono ?_
    rintro e w3 ⟨rfl, hb3⟩
    have f3a0 := kept hb3 g2a0
    have f3a1 := kept hb3 g2a1
    have f3b0 := kept hb3 g2b0
    have f3b1 := kept hb3 g2b1
    have f3x0 := kept hb3 g2x0
    have f3x1 := kept hb3 g2x1
    have g3a0 := kept_alloc (x := .cells #[.int .i64 0, .int .i64 0] 23) f3a0
    have g3a1 := kept_alloc (x := .cells #[.int .i64 0, .int .i64 0] 23) f3a1
    have g3b0 := kept_alloc (x := .cells #[.int .i64 0, .int .i64 0] 23) f3b0
    have g3b1 := kept_alloc (x := .cells #[.int .i64 0, .int .i64 0] 23) f3b1
    have g3x0 := kept_alloc (x := .cells #[.int .i64 0, .int .i64 0] 23) f3x0
    have g3x1 := kept_alloc (x := .cells #[.int .i64 0, .int .i64 0] 23) f3x1
    have g3y0 : (w3.alloc (.cells #[.int .i64 0, .int .i64 0] 23)).cell? ⟨w3.heap.size, 0, none⟩ = some (.int .i64 0) := by go_simp
    have g3y1 : (w3.alloc (.cells #[.int .i64 0, .int .i64 0] 23)).cell? ⟨w3.heap.size, 1, none⟩ = some (.int .i64 0) := by go_simp
    go_wp2_with fail
    refine (L4.out _).mono ?_
    rintro e w4 ⟨rfl, hb4⟩
    have g4a0 := kept hb4 g3a0
    have g4a1 := kept hb4 g3a1
    have g4b0 := kept hb4 g3b0
    have g4b1 := kept hb4 g3b1
    have g4x0 := kept hb4 g3x0
    have g4x1 := kept hb4 g3x1
    have g4y0 := kept hb4 g3y0
    have g4y1 := kept hb4 g3y1
    go_wp2
    go_ret
    exact ⟨rfl, by repeat (first | exact Below.refl _ _ | refine bthen ?_ hb9 | refine bthen ?_ hb8 | refine bthen ?_ hb7 | refine bthen ?_ hb6 | refine bthen ?_ hb5 | refine bthen ?_ hb4 | refine bthen ?_ hb3 | refine bthen ?_ hb2 | refine bthen ?_ hb1 | refine Below.drew ?_ | refine balloc ?_ _ )⟩
  · have h2 : isr b0 b1 = false := by unfold ok2 at h; rw [h1] at h; simpa using h
    rw [chk_ok h1] at K4
    rw [chk_no h2] at K5
    have L4 : Hid _ := K4
    have L5 : Hid _ := K5
    clear K4 K5 h h1 h2
    go_enter Try.func4, Try.ntmps4
    go_wp2_with fail
    refine (L1.out _).mono ?_
    rintro e w1 ⟨rfl, hb1⟩
    have f1a0 : w1.cell? ⟨w.heap.size, 0, none⟩ = some (.int .i64 a0) := kept hb1 (by go_simp)
    have f1a1 : w1.cell? ⟨w.heap.size, 1, none⟩ = some (.int .i64 a1) := kept hb1 (by go_simp)
    have f1b0 : w1.cell? ⟨w.heap.size + 1, 0, none⟩ = some (.int .i64 b0) := kept hb1 (by go_simp)
    have f1b1 : w1.cell? ⟨w.heap.size + 1, 1, none⟩ = some (.int .i64 b1) := kept hb1 (by go_simp)
    go_wp2_with fail
    refine (L2.out _).mono ?_
    rintro e w2 ⟨rfl, hb2⟩
    have f2a0 := kept hb2 f1a0
    have f2a1 := kept hb2 f1a1
    have f2b0 := kept hb2 f1b0
    have f2b1 := kept hb2 f1b1
    have g2a0 := kept_alloc (x := .cells #[.int .i64 0, .int .i64 0] 23) f2a0
    have g2a1 := kept_alloc (x := .cells #[.int .i64 0, .int .i64 0] 23) f2a1
    have g2b0 := kept_alloc (x := .cells #[.int .i64 0, .int .i64 0] 23) f2b0
    have g2b1 := kept_alloc (x := .cells #[.int .i64 0, .int .i64 0] 23) f2b1
    have g2x0 : (w2.alloc (.cells #[.int .i64 0, .int .i64 0] 23)).cell? ⟨w2.heap.size, 0, none⟩ = some (.int .i64 0) := by go_simp
    have g2x1 : (w2.alloc (.cells #[.int .i64 0, .int .i64 0] 23)).cell? ⟨w2.heap.size, 1, none⟩ = some (.int .i64 0) := by go_simp
    go_wp2_with fail
    refine (L3.out _).mono ?_
    rintro e w3 ⟨rfl, hb3⟩
    have f3a0 := kept hb3 g2a0
    have f3a1 := kept hb3 g2a1
    have f3b0 := kept hb3 g2b0
    have f3b1 := kept hb3 g2b1
    have f3x0 := kept hb3 g2x0
    have f3x1 := kept hb3 g2x1
    have g3a0 := kept_alloc (x := .cells #[.int .i64 0, .int .i64 0] 23) f3a0
    have g3a1 := kept_alloc (x := .cells #[.int .i64 0, .int .i64 0] 23) f3a1
    have g3b0 := kept_alloc (x := .cells #[.int .i64 0, .int .i64 0] 23) f3b0
    have g3b1 := kept_alloc (x := .cells #[.int .i64 0, .int .i64 0] 23) f3b1
    have g3x0 := kept_alloc (x := .cells #[.int .i64 0, .int .i64 0] 23) f3x0
    have g3x1 := kept_alloc (x := .cells #[.int .i64 0, .int .i64 0] 23) f3x1
    have g3y0 : (w3.alloc (.cells #[.int .i64 0, .int .i64 0] 23)).cell? ⟨w3.heap.size, 0, none⟩ = some (.int .i64 0) := by go_simp
    have g3y1 : (w3.alloc (.cells #[.int .i64 0, .int .i64 0] 23)).cell? ⟨w3.heap.size, 1, none⟩ = some (.int .i64 0) := by go_simp
    go_wp2_with fail
    refine (L4.out _).mono ?_
    rintro e w4 ⟨rfl, hb4⟩
    have g4a0 := kept hb4 g3a0
    have g4a1 := kept hb4 g3a1
    have g4b0 := kept hb4 g3b0
    have g4b1 := kept hb4 g3b1
    have g4x0 := kept hb4 g3x0
    have g4x1 := kept hb4 g3x1
    have g4y0 := kept hb4 g3y0
    have g4y1 := kept hb4 g3y1
    go_wp2_with fail
    refine (L5.out _).mono ?_
    rintro e w5 ⟨rfl, hb5⟩
    have g5a0 := kept hb5 g4a0
    have g5a1 := kept hb5 g4a1
    have g5b0 := kept hb5 g4b0
    have g5b1 := kept hb5 g4b1
    have g5x0 := kept hb5 g4x0
    have g5x1 := kept hb5 g4x1
    have g5y0 := kept hb5 g4y0
    have g5y1 := kept hb5 g4y1
    go_wp2
    go_ret
    exact ⟨rfl, by repeat (first | exact Below.refl _ _ | refine bthen ?_ hb9 | refine bthen ?_ hb8 | refine bthen ?_ hb7 | refine bthen ?_ hb6 | refine bthen ?_ hb5 | refine bthen ?_ hb4 | refine bthen ?_ hb3 | refine bthen ?_ hb2 | refine bthen ?_ hb1 | refine Below.drew ?_ | refine balloc ?_ _ )⟩

theorem wr (n : Int) (h1 : -9223372036854775808 ≤ n) (h2 : n ≤ 9223372036854775807) : IntKind.i64.wrap n = n := by
  rw [IntKind.wrap_i64]; omega

set_option maxHeartbeats 4000000 in
theorem walk_yes (a0 a1 b0 b1 x : Int) (w : World) (h : ok2 a0 a1 b0 b1 = true) (hx : cmp3 (a0 * b1) (b0 * a1) = x) (hx1 : (x = -1 ∧ a0 * b1 < b0 * a1) ∨ (x = 1 ∧ b0 * a1 < a0 * b1) ∨ (x = 0 ∧ a0 * b1 ≤ b0 * a1 ∧ b0 * a1 ≤ a0 * b1)) :
    Calls Try.prog 4 #[.agg #[.int .i64 a0, .int .i64 a1], .agg #[.int .i64 b0, .int .i64 b1]] w fun e w' => e = .returned (.bool true) ∧ Below w.heap.size w w' := by
  have K1 := cmp_any a0 a1 b0 b1
  have K2 := add_any a0 a1 b0 b1
  have K3 := mul_any a0 a1 b0 b1
  rw [chk2_ok h, show cV a0 a1 b0 b1 = x from by unfold cV; simp [h, hx]] at K1
  rw [show adN a0 a1 b0 b1 = _ from by unfold adN; rw [if_pos h], show adD a0 a1 b0 b1 = _ from by unfold adD; rw [if_pos h], show adE a0 a1 b0 b1 = _ from by unfold adE; rw [if_pos h]] at K2
  rw [show muN a0 a1 b0 b1 = _ from by unfold muN; rw [if_pos h], show muD a0 a1 b0 b1 = _ from by unfold muD; rw [if_pos h], show muE a0 a1 b0 b1 = _ from by unfold muE; rw [if_pos h]] at K3
  obtain ⟨i1, i2⟩ := ok2_true h
  have K4 := ref_any a0 a1
  have K5 := ref_any b0 b1
  rw [chk_ok i1] at K4
  rw [chk_ok i2] at K5
  obtain ⟨⟨p1, p2, p3, p4⟩, _⟩ := isr_true i1
  obtain ⟨⟨q1, q2, q3, q4⟩, _⟩ := isr_true i2
  have m1 := mulb p1 p2 (show -1000000 ≤ b1 by omega) q4
  have m2 := mulb q1 q2 (show -1000000 ≤ a1 by omega) p4
  have m3 := mulb (show -1000000 ≤ a1 by omega) p4 (show -1000000 ≤ b1 by omega) q4
  have m4 := mulp p3 q3
  have m5 := mulb p1 p2 q1 q2
  have T1 := told_any (a0 * b1 + b0 * a1) (a1 * b1) m4
  have T2 := told_any (a0 * b0) (a1 * b1) m4
  have U1 : Hid _ := T1
  have U2 : Hid _ := T2
  have L1 : Hid _ := K1
  have L2 : Hid _ := K2
  have L3 : Hid _ := K3
  have L4 : Hid _ := K4
  have L5 : Hid _ := K5
  clear K1 K2 K3 K4 K5 T1 T2 h i1 i2 hx
  rcases hx1 with ⟨rfl, hc⟩ | ⟨rfl, hc⟩ | ⟨rfl, hc, hc2⟩
  all_goals
    go_enter Try.func4, Try.ntmps4
    go_wp2_with fail
    refine (L1.out _).mono ?_
    rintro e w1 ⟨rfl, hb1⟩
    have f1a0 : w1.cell? ⟨w.heap.size, 0, none⟩ = some (.int .i64 a0) := kept hb1 (by go_simp)
    have f1a1 : w1.cell? ⟨w.heap.size, 1, none⟩ = some (.int .i64 a1) := kept hb1 (by go_simp)
    have f1b0 : w1.cell? ⟨w.heap.size + 1, 0, none⟩ = some (.int .i64 b0) := kept hb1 (by go_simp)
    have f1b1 : w1.cell? ⟨w.heap.size + 1, 1, none⟩ = some (.int .i64 b1) := kept hb1 (by go_simp)
    go_wp2_with fail
    refine (L2.out _).mono ?_
    rintro e w2 ⟨rfl, hb2⟩
    have f2a0 := kept hb2 f1a0
    have f2a1 := kept hb2 f1a1
    have f2b0 := kept hb2 f1b0
    have f2b1 := kept hb2 f1b1
    have g2a0 := kept_alloc (x := .cells #[.int .i64 (sN (a0 * b1 + b0 * a1) (a1 * b1)), .int .i64 (sD (a0 * b1 + b0 * a1) (a1 * b1))] 23) f2a0
    have g2a1 := kept_alloc (x := .cells #[.int .i64 (sN (a0 * b1 + b0 * a1) (a1 * b1)), .int .i64 (sD (a0 * b1 + b0 * a1) (a1 * b1))] 23) f2a1
    have g2b0 := kept_alloc (x := .cells #[.int .i64 (sN (a0 * b1 + b0 * a1) (a1 * b1)), .int .i64 (sD (a0 * b1 + b0 * a1) (a1 * b1))] 23) f2b0
    have g2b1 := kept_alloc (x := .cells #[.int .i64 (sN (a0 * b1 + b0 * a1) (a1 * b1)), .int .i64 (sD (a0 * b1 + b0 * a1) (a1 * b1))] 23) f2b1
    have g2x0 : (w2.alloc (.cells #[.int .i64 (sN (a0 * b1 + b0 * a1) (a1 * b1)), .int .i64 (sD (a0 * b1 + b0 * a1) (a1 * b1))] 23)).cell? ⟨w2.heap.size, 0, none⟩ = some (.int .i64 (sN (a0 * b1 + b0 * a1) (a1 * b1))) := by go_simp
    have g2x1 : (w2.alloc (.cells #[.int .i64 (sN (a0 * b1 + b0 * a1) (a1 * b1)), .int .i64 (sD (a0 * b1 + b0 * a1) (a1 * b1))] 23)).cell? ⟨w2.heap.size, 1, none⟩ = some (.int .i64 (sD (a0 * b1 + b0 * a1) (a1 * b1))) := by go_simp
    go_wp2_with fail
    refine (L3.out _).mono ?_
    rintro e w3 ⟨rfl, hb3⟩
    have f3a0 := kept hb3 g2a0
    have f3a1 := kept hb3 g2a1
    have f3b0 := kept hb3 g2b0
    have f3b1 := kept hb3 g2b1
    have f3x0 := kept hb3 g2x0
    have f3x1 := kept hb3 g2x1
    have g3a0 := kept_alloc (x := .cells #[.int .i64 (sN (a0 * b0) (a1 * b1)), .int .i64 (sD (a0 * b0) (a1 * b1))] 23) f3a0
    have g3a1 := kept_alloc (x := .cells #[.int .i64 (sN (a0 * b0) (a1 * b1)), .int .i64 (sD (a0 * b0) (a1 * b1))] 23) f3a1
    have g3b0 := kept_alloc (x := .cells #[.int .i64 (sN (a0 * b0) (a1 * b1)), .int .i64 (sD (a0 * b0) (a1 * b1))] 23) f3b0
    have g3b1 := kept_alloc (x := .cells #[.int .i64 (sN (a0 * b0) (a1 * b1)), .int .i64 (sD (a0 * b0) (a1 * b1))] 23) f3b1
    have g3x0 := kept_alloc (x := .cells #[.int .i64 (sN (a0 * b0) (a1 * b1)), .int .i64 (sD (a0 * b0) (a1 * b1))] 23) f3x0
    have g3x1 := kept_alloc (x := .cells #[.int .i64 (sN (a0 * b0) (a1 * b1)), .int .i64 (sD (a0 * b0) (a1 * b1))] 23) f3x1
    have g3y0 : (w3.alloc (.cells #[.int .i64 (sN (a0 * b0) (a1 * b1)), .int .i64 (sD (a0 * b0) (a1 * b1))] 23)).cell? ⟨w3.heap.size, 0, none⟩ = some (.int .i64 (sN (a0 * b0) (a1 * b1))) := by go_simp
    have g3y1 : (w3.alloc (.cells #[.int .i64 (sN (a0 * b0) (a1 * b1)), .int .i64 (sD (a0 * b0) (a1 * b1))] 23)).cell? ⟨w3.heap.size, 1, none⟩ = some (.int .i64 (sD (a0 * b0) (a1 * b1))) := by go_simp
    go_wp2_with fail
    refine (L4.out _).mono ?_
    rintro e w4 ⟨rfl, hb4⟩
    have g4a0 := kept hb4 g3a0
    have g4a1 := kept hb4 g3a1
    have g4b0 := kept hb4 g3b0
    have g4b1 := kept hb4 g3b1
    have g4x0 := kept hb4 g3x0
    have g4x1 := kept hb4 g3x1
    have g4y0 := kept hb4 g3y0
    have g4y1 := kept hb4 g3y1
    go_wp2_with fail
    refine (L5.out _).mono ?_
    rintro e w5 ⟨rfl, hb5⟩
    have g5a0 := kept hb5 g4a0
    have g5a1 := kept hb5 g4a1
    have g5b0 := kept hb5 g4b0
    have g5b1 := kept hb5 g4b1
    have g5x0 := kept hb5 g4x0
    have g5x1 := kept hb5 g4x1
    have g5y0 := kept hb5 g4y0
    have g5y1 := kept hb5 g4y1
    go_wp2_with fail
    have v1 := wr (a0 * b1) (by omega) (by omega)
    have v2 := wr (b0 * a1) (by omega) (by omega)
    have v3 := wr (a1 * b1) (by omega) (by omega)
    have v4 := wr (a0 * b0) (by omega) (by omega)
    have v5 := wr (a0 * b1 + b0 * a1) (by omega) (by omega)
    go_region_held3 (fun w' => w'.cell? ⟨w.heap.size, 0, none⟩ = some (.int .i64 a0) ∧ w'.cell? ⟨w.heap.size, 1, none⟩ = some (.int .i64 a1) ∧ w'.cell? ⟨w.heap.size + 1, 0, none⟩ = some (.int .i64 b0) ∧ w'.cell? ⟨w.heap.size + 1, 1, none⟩ = some (.int .i64 b1) ∧ w'.cell? ⟨w2.heap.size, 0, none⟩ = some (.int .i64 (sN (a0 * b1 + b0 * a1) (a1 * b1))) ∧ w'.cell? ⟨w2.heap.size, 1, none⟩ = some (.int .i64 (sD (a0 * b1 + b0 * a1) (a1 * b1))) ∧ w'.cell? ⟨w3.heap.size, 0, none⟩ = some (.int .i64 (sN (a0 * b0) (a1 * b1))) ∧ w'.cell? ⟨w3.heap.size, 1, none⟩ = some (.int .i64 (sD (a0 * b0) (a1 * b1))))
      (first | (go_split_ands; refine ⟨kept hb6 ?_, kept hb6 ?_, kept hb6 ?_, kept hb6 ?_, kept hb6 ?_, kept hb6 ?_, kept hb6 ?_, kept hb6 ?_⟩ <;> assumption) | (go_split_ands; refine ⟨kept hb7 ?_, kept hb7 ?_, kept hb7 ?_, kept hb7 ?_, kept hb7 ?_, kept hb7 ?_, kept hb7 ?_, kept hb7 ?_⟩ <;> assumption) | (go_split_ands; refine ⟨kept hb8 ?_, kept hb8 ?_, kept hb8 ?_, kept hb8 ?_, kept hb8 ?_, kept hb8 ?_, kept hb8 ?_, kept hb8 ?_⟩ <;> assumption) | (go_split_ands; refine ⟨kept hb9 ?_, kept hb9 ?_, kept hb9 ?_, kept hb9 ?_, kept hb9 ?_, kept hb9 ?_, kept hb9 ?_, kept hb9 ?_⟩ <;> assumption) | go_keep)
      (first
       | (go_at_call_of 17 (Value.int IntKind.i64 (a0 * b0)); refine (least_any _ _ _ (by omega) (by omega) (by omega) (by omega)).mono ?_; rintro e w8 ⟨rfl, hb8⟩)
       | (go_at_call 17; refine (least_any _ _ _ (by omega) (by omega) (by omega) (by omega)).mono ?_; rintro e w6 ⟨rfl, hb6⟩)
       | (go_at_call_of 16 (Value.int IntKind.i64 (sE (a0 * b0) (a1 * b1))); refine (U2.out _).mono ?_; rintro e w9 ⟨rfl, hb9⟩)
       | (go_at_call 16; refine (U1.out _).mono ?_; rintro e w7 ⟨rfl, hb7⟩))
    all_goals go_wp2
    all_goals go_ret
    all_goals exact ⟨rfl, by repeat (first | exact Below.refl _ _ | refine bthen ?_ hb9 | refine bthen ?_ hb8 | refine bthen ?_ hb7 | refine bthen ?_ hb6 | refine bthen ?_ hb5 | refine bthen ?_ hb4 | refine bthen ?_ hb3 | refine bthen ?_ hb2 | refine bthen ?_ hb1 | refine Below.drew ?_ | refine balloc ?_ _ )⟩

theorem walk (a0 a1 b0 b1 : Int) (w : World) :
    Calls Try.prog 4 #[.agg #[.int .i64 a0, .int .i64 a1], .agg #[.int .i64 b0, .int .i64 b1]] w fun e w' => e = .returned (.bool true) ∧ Below w.heap.size w w' := by
  cases h : ok2 a0 a1 b0 b1
  · exact walk_no a0 a1 b0 b1 w h
  · refine walk_yes a0 a1 b0 b1 _ w h rfl ?_
    unfold cmp3
    by_cases h1 : a0 * b1 < b0 * a1
    · exact .inl ⟨if_pos h1, h1⟩
    · by_cases h2 : b0 * a1 < a0 * b1
      · exact .inr (.inl ⟨by rw [if_neg h1, if_pos h2], h2⟩)
      · exact .inr (.inr ⟨by rw [if_neg h1, if_neg h2], by omega, by omega⟩)

/-! ### THE ROW's STEP -/
theorem own : ownKnob Try.prog.godebug = none := by kernel_rfl
theorem cells23 : Try.prog.cellsOf 23 = 2 := by kernel_rfl

set_option maxRecDepth 100000 in
theorem lifted (os : Os) (started : os.Started) (H : Type) (enc : TypeId × Value → H) :
    ReturnsInHanded {} Try.checked os 4 .any (Rows.ratioCountsSpec.pre6 enc Try.prog Try.f4 Rows.ratioCountsRow.domain false) (Rows.ratioCountsSpec.post enc Try.prog Try.f4 false true false false) := by
  refine returnsInHanded_of_change (C := Try.checked) own started (by kernel_rfl) Try.func4
    (ChangeSpec.witness6 (enc := enc) (C := Try.checked) false ⟨#[], #[.agg #[.int .i64 0, .int .i64 0], .agg #[.int .i64 0, .int .i64 0]], []⟩ 8 (by kernel_rfl) (by kernel_rfl) (by kernel_rfl) (by kernel_rfl)) ?_
  intro W base args ds gs before hval0 hW _ _
  have hval : ∀ (j : Nat) t v, Try.f4.params[j]? = some t → args[j]? = some v → Value.okWide Try.prog W .any base t v := hval0
  have hW' := hW
  obtain ⟨p, q, hA0, hV, rfl, _, _⟩ := hW
  have hA : DataW.TrodAll enc Try.prog W 0 (fun _ => true) true Try.f4.params.toList args.toList ds p := hA0
  rw [Try.params4] at hA hval
  obtain ⟨v0, v1, d0, d1, p0, p1, rfl, rfl, rfl, h0, h1⟩ := trodAll_two hA
  obtain ⟨rfl, rfl⟩ := trodVars_none hV
  obtain ⟨c00, c01, y00, y01, m0, rfl, rfl, rfl, hy00, hy01⟩ := open_agg2 Try.underlying23 (by kernel_rfl) cells23 (hval 0 23 v0 rfl rfl) h0
  obtain ⟨a0, e00, rfl, wa0⟩ := DataW.trod_int Try.underlying3 hy00
  obtain ⟨b0, e01, rfl, wb0⟩ := DataW.trod_int Try.underlying3 hy01
  simp at e00 e01
  subst e00 e01
  obtain ⟨c10, c11, y10, y11, m1, rfl, rfl, rfl, hy10, hy11⟩ := open_agg2 Try.underlying23 (by kernel_rfl) cells23 (hval 1 23 v1 rfl rfl) h1
  obtain ⟨a1, e10, rfl, wa1⟩ := DataW.trod_int Try.underlying3 hy10
  obtain ⟨b1, e11, rfl, wb1⟩ := DataW.trod_int Try.underlying3 hy11
  simp at e10 e11
  subst e10 e11
  clear hA0 hval0
  simp only [List.append_nil] at hW'
  have structReads0 : ∀ (W' : World) (sp : Nat → Bool), DataW.Trod enc Try.prog W' 0 sp true 23 (.agg #[.int .i64 a0, .int .i64 b0]) (.agg [.lit (.int .i64 a0), .lit (.int .i64 b0)]) [] := fun W' sp =>
    shut_agg2 (y0 := (.lit (.int .i64 a0), [])) (y1 := (.lit (.int .i64 b0), [])) Try.underlying23 (by kernel_rfl) cells23 ⟨1, by simp [DataW.trod, Try.underlying3, wa0]⟩ ⟨1, by simp [DataW.trod, Try.underlying3, wb0]⟩
  have structReads1 : ∀ (W' : World) (sp : Nat → Bool), DataW.Trod enc Try.prog W' 0 sp true 23 (.agg #[.int .i64 a1, .int .i64 b1]) (.agg [.lit (.int .i64 a1), .lit (.int .i64 b1)]) [] := fun W' sp =>
    shut_agg2 (y0 := (.lit (.int .i64 a1), [])) (y1 := (.lit (.int .i64 b1), [])) Try.underlying23 (by kernel_rfl) cells23 ⟨1, by simp [DataW.trod, Try.underlying3, wa1]⟩ ⟨1, by simp [DataW.trod, Try.underlying3, wb1]⟩
  refine (walk a0 b0 a1 b1 W).mono fun e W' ⟨he, bel⟩ => ?_
  subst he
  exact ⟨_, rfl, _, _, _, [], [], [], hW', trodAll_mk1 (shut_bool Try.underlying4 _), trodAll_mk2 (structReads0 _ _) (structReads1 _ _), rfl, bel.frame _, fun h => by cases h⟩

theorem holds : Rows.RatioCountsSaid :=
  OpenClaim.holds_of_wide 4 Try.f4 rfl rfl rfl rfl rfl rfl rfl ⟨rfl, rfl, rfl, rfl, rfl⟩ rfl rfl rfl rfl rfl (by kernel_rfl) Try.func4 (by kernel_rfl)
    (of_decide_eq_true (by kernel_rfl)) (by unfold Func.isWrapper; first | (rw [if_pos (by decide +kernel)]; kernel_rfl) | (rw [if_neg (by decide +kernel)]; exact ⟨rfl, rfl⟩))
    (fun os started H enc _ => lifted os started H enc)

end Go.Proofs.Ytihicidfpfkknaa.Counts
namespace Go.Proofs.Ytihicidfpfkknaa
theorem ratioCounts_holds : Rows.RatioCountsSaid := Counts.holds
#print axioms ratioCounts_holds
end Go.Proofs.Ytihicidfpfkknaa
