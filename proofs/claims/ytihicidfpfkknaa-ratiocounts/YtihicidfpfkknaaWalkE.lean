/-
  Contracts: Cmp, Add and Mul, and what they call.
-/
import Derived.Test.YtihicidfpfkknaaWalkD
namespace Go.Proofs.Ytihicidfpfkknaa
open Go.RowKit
open Pl

def cmp3 (x y : Int) : Int := if x < y then -1 else if y < x then 1 else 0

set_option maxHeartbeats 400000 in
theorem compare_any (x y : Int) (w : World) :
    Calls Try.prog 30 #[.int .i64 x, .int .i64 y] w fun e w' => e = .returned (.int .i64 (cmp3 x y)) ∧ w' = w := by
  by_cases h1 : x < y
  · have HC : Hid (cmp3 x y = -1) := by unfold Hid cmp3; rw [if_pos h1]
    go_enter Try.func30, Try.ntmps30
    go_wp2
    go_ret
    exact ⟨ret_int HC.out.symm, rfl⟩
  · by_cases h2 : y < x
    · have HC : Hid (cmp3 x y = 1) := by unfold Hid cmp3; rw [if_neg h1, if_pos h2]
      go_enter Try.func30, Try.ntmps30
      go_wp2
      go_ret
      exact ⟨ret_int HC.out.symm, rfl⟩
    · have HC : Hid (cmp3 x y = 0) := by unfold Hid cmp3; rw [if_neg h1, if_neg h2]
      go_enter Try.func30, Try.ntmps30
      go_wp2
      go_ret
      exact ⟨ret_int HC.out.symm, rfl⟩

/-- What checkBoth answers. -/
def chk2 (a b c d : Int) : Int := if isr a b = true then chk c d else 3
theorem chk2_no1 {a b : Int} (c d : Int) (h : isr a b = false) : chk2 a b c d = 3 := by unfold chk2; simp [h]
theorem chk2_yes1 {a b : Int} (c d : Int) (h : isr a b = true) : chk2 a b c d = chk c d := by unfold chk2; simp [h]

set_option maxHeartbeats 1000000 in
theorem both_any (a b c d : Int) (w : World) :
    Calls Try.prog 29 #[.agg #[.int .i64 a, .int .i64 b], .agg #[.int .i64 c, .int .i64 d]] w fun e w' => e = .returned (.int .i64 (chk2 a b c d)) ∧ Below w.heap.size w w' := by
  cases hi : isr a b
  · have H1 := check_any a b
    rw [chk_no hi] at H1
    rw [chk2_no1 c d hi]
    have H2 : Hid _ := H1
    clear H1 hi
    go_enter Try.func29, Try.ntmps29
    go_wp2_with fail
    refine (H2.out _).mono ?_
    rintro e w1 ⟨rfl, hb1⟩
    go_wp2
    go_ret
    exact ⟨rfl, by repeat (first | exact Below.refl _ _ | refine bthen ?_ hb1 | refine balloc ?_ _ )⟩
  · have H1 := check_any a b
    rw [chk_ok hi] at H1
    rw [chk2_yes1 c d hi]
    have H2 : Hid _ := H1
    clear H1 hi
    go_enter Try.func29, Try.ntmps29
    go_wp2_with fail
    refine (H2.out _).mono ?_
    rintro e w1 ⟨rfl, hb1⟩
    have r0 : w1.cell? ⟨w.heap.size + 1, 0, none⟩ = some (.int .i64 c) := kept hb1 (by simp)
    have r1 : w1.cell? ⟨w.heap.size + 1, 1, none⟩ = some (.int .i64 d) := kept hb1 (by simp)
    go_wp2_with fail
    refine (check_any c d _).mono ?_
    rintro e w2 ⟨rfl, hb2⟩
    go_wp2
    go_ret
    exact ⟨rfl, by repeat (first | exact Below.refl _ _ | refine bthen ?_ hb2 | refine bthen ?_ hb1 | refine balloc ?_ _ )⟩

theorem keptF {W w1 : World} (hb : Below W.heap.size W w1) {b o : Nat} {v : Value} (h : W.cell? ⟨b, o, none⟩ = some v) (hf : W.frozen? ⟨b, o, none⟩ = false) : w1.frozen? ⟨b, o, none⟩ = false := by
  rw [hb.frozen (p := ⟨b, o, none⟩) (World.block_lt_of_cell? W ⟨b, o, none⟩ h)]; exact hf
theorem keptF_alloc {W : World} {b o : Nat} (c : Array Value) (t : TypeId) (hf : W.frozen? ⟨b, o, none⟩ = false) : (W.alloc (.cells c t)).frozen? ⟨b, o, none⟩ = false := by
  rw [frozen?_alloc_cells]; exact hf

/-- What settle answers. -/
def sN (n d : Int) : Int := if inb (ln n d) (ld n d) = true then ln n d else 0
def sD (n d : Int) : Int := if inb (ln n d) (ld n d) = true then ld n d else 0
def sE (n d : Int) : Int := if inb (ln n d) (ld n d) = true then 0 else 2

set_option maxHeartbeats 1000000 in
theorem settle_any (n d : Int) (w : World) (hn : -9223372036854775807 ≤ n) (hn' : n ≤ 9223372036854775807) (hd : 1 ≤ d) (hd' : d ≤ 9223372036854775807) :
    Calls Try.prog 31 #[.int .i64 n, .int .i64 d] w fun e w' => e = .returned (.tuple #[.agg #[.int .i64 (sN n d), .int .i64 (sD n d)], .int .i64 (sE n d)]) ∧ Below w.heap.size w w' := by
  cases hi : inb (ln n d) (ld n d)
  · have e1 : sN n d = 0 := by unfold sN; simp [hi]
    have e2 : sD n d = 0 := by unfold sD; simp [hi]
    have e3 : sE n d = 2 := by unfold sE; simp [hi]
    rw [e1, e2, e3]
    have HI : Hid (inb (ln n d) (ld n d) = false) := hi
    clear hi e1 e2 e3
    go_enter Try.func31, Try.ntmps31
    go_wp2_with fail
    refine (lowest_any n d _ hn hn' hd hd').mono ?_
    rintro e w1 ⟨rfl, hb1⟩
    have r0 : w1.cell? ⟨w.heap.size, 0, none⟩ = some (.int .i64 0) := kept hb1 (by simp)
    have r1 : w1.cell? ⟨w.heap.size, 1, none⟩ = some (.int .i64 0) := kept hb1 (by simp)
    have f0 := keptF_alloc #[.int .i64 (ln n d), .int .i64 (ld n d)] 23 (keptF hb1 (b := w.heap.size) (o := 0) (by simp; rfl) (by simp))
    have f1 := keptF_alloc #[.int .i64 (ln n d), .int .i64 (ld n d)] 23 (keptF hb1 (b := w.heap.size) (o := 1) (by simp; rfl) (by simp))
    have r2 := kept_alloc (x := .cells #[.int .i64 (ln n d), .int .i64 (ld n d)] 23) r0
    have r3 := kept_alloc (x := .cells #[.int .i64 (ln n d), .int .i64 (ld n d)] 23) r1
    go_wp2_with fail
    refine (inb_no _ _ _ HI.out).mono ?_
    rintro e w2 ⟨rfl, rfl⟩
    go_wp2
    exact bodyPost_ret (v := .tuple #[.agg #[.int .i64 0, .int .i64 0], .int .i64 2]) (by simp [results, Try.results31, go_sem, r2, r3]) rfl ⟨rfl, by repeat (first | exact Below.refl _ _ | refine bthen ?_ hb1 | refine Below.setCell ?_ (by simp) _ | refine balloc ?_ _ )⟩
  · have e1 : sN n d = ln n d := by unfold sN; simp [hi]
    have e2 : sD n d = ld n d := by unfold sD; simp [hi]
    have e3 : sE n d = 0 := by unfold sE; simp [hi]
    rw [e1, e2, e3]
    have HI : Hid (inb (ln n d) (ld n d) = true) := hi
    clear hi e1 e2 e3
    go_enter Try.func31, Try.ntmps31
    go_wp2_with fail
    refine (lowest_any n d _ hn hn' hd hd').mono ?_
    rintro e w1 ⟨rfl, hb1⟩
    have r0 : w1.cell? ⟨w.heap.size, 0, none⟩ = some (.int .i64 0) := kept hb1 (by simp)
    have r1 : w1.cell? ⟨w.heap.size, 1, none⟩ = some (.int .i64 0) := kept hb1 (by simp)
    have f0 := keptF_alloc #[.int .i64 (ln n d), .int .i64 (ld n d)] 23 (keptF hb1 (b := w.heap.size) (o := 0) (by simp; rfl) (by simp))
    have f1 := keptF_alloc #[.int .i64 (ln n d), .int .i64 (ld n d)] 23 (keptF hb1 (b := w.heap.size) (o := 1) (by simp; rfl) (by simp))
    have r2 := kept_alloc (x := .cells #[.int .i64 (ln n d), .int .i64 (ld n d)] 23) r0
    have r3 := kept_alloc (x := .cells #[.int .i64 (ln n d), .int .i64 (ld n d)] 23) r1
    go_wp2_with fail
    refine (inb_yes _ _ _ HI.out).mono ?_
    rintro e w2 ⟨rfl, rfl⟩
    go_wp2
    exact bodyPost_ret (v := .tuple #[.agg #[.int .i64 (ln n d), .int .i64 (ld n d)], .int .i64 0]) (by simp [results, Try.results31, go_sem, r2, r3]) rfl ⟨rfl, by repeat (first | exact Below.refl _ _ | refine bthen ?_ hb1 | refine Below.setCell ?_ (by simp) _ | refine balloc ?_ _ )⟩

end Go.Proofs.Ytihicidfpfkknaa
