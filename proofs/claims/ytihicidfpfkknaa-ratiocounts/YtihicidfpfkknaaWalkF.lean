/-
  Contracts: Cmp, Add and Mul.
-/
import Derived.Test.YtihicidfpfkknaaWalkE
namespace Go.Proofs.Ytihicidfpfkknaa
open Go.RowKit
open Pl

/-- Two ratios? -/
def ok2 (a b c d : Int) : Bool := isr a b && isr c d
theorem ok2_true {a b c d : Int} (h : ok2 a b c d = true) : isr a b = true ∧ isr c d = true := by
  unfold ok2 at h; simpa using h
theorem chk2_ok {a b c d : Int} (h : ok2 a b c d = true) : chk2 a b c d = 0 := by
  obtain ⟨h1, h2⟩ := ok2_true h
  rw [chk2_yes1 c d h1, chk_ok h2]
theorem chk2_no {a b c d : Int} (h : ok2 a b c d = false) : chk2 a b c d = 3 := by
  unfold ok2 at h
  cases h1 : isr a b
  · exact chk2_no1 c d h1
  · rw [chk2_yes1 c d h1]; rw [h1] at h; exact chk_no (by simpa using h)

theorem mulb {x y : Int} (h1 : -1000000 ≤ x) (h2 : x ≤ 1000000) (h3 : -1000000 ≤ y) (h4 : y ≤ 1000000) : -1000000000000 ≤ x * y ∧ x * y ≤ 1000000000000 := by
  have hx : x.natAbs ≤ 1000000 := by omega
  have hy : y.natAbs ≤ 1000000 := by omega
  have := Nat.mul_le_mul hx hy
  rw [← Int.natAbs_mul] at this
  omega

theorem mulp {x y : Int} (h1 : 1 ≤ x) (h2 : 1 ≤ y) : 1 ≤ x * y := by
  have := Int.mul_pos (a := x) (b := y) (by omega) (by omega)
  omega

def cV (a b c d : Int) : Int := if ok2 a b c d = true then cmp3 (a * d) (c * b) else 0
def adN (a b c d : Int) : Int := if ok2 a b c d = true then sN (a * d + c * b) (b * d) else 0
def adD (a b c d : Int) : Int := if ok2 a b c d = true then sD (a * d + c * b) (b * d) else 0
def adE (a b c d : Int) : Int := if ok2 a b c d = true then sE (a * d + c * b) (b * d) else 3
def muN (a b c d : Int) : Int := if ok2 a b c d = true then sN (a * c) (b * d) else 0
def muD (a b c d : Int) : Int := if ok2 a b c d = true then sD (a * c) (b * d) else 0
def muE (a b c d : Int) : Int := if ok2 a b c d = true then sE (a * c) (b * d) else 3

set_option maxHeartbeats 1000000 in
theorem cmp_any (a b c d : Int) (w : World) :
    Calls Try.prog 13 #[.agg #[.int .i64 a, .int .i64 b], .agg #[.int .i64 c, .int .i64 d]] w fun e w' => e = .returned (.tuple #[.int .i64 (cV a b c d), .int .i64 (chk2 a b c d)]) ∧ Below w.heap.size w w' := by
  have H0 := both_any a b c d
  cases hi : ok2 a b c d
  · have e1 : cV a b c d = 0 := by unfold cV; simp [hi]
    rw [chk2_no hi] at H0
    rw [e1, chk2_no hi]
    have H1 : Hid _ := H0
    clear H0 e1 hi
    go_enter Try.func13, Try.ntmps13
    go_wp2_with fail
    refine (H1.out _).mono ?_
    rintro e w1 ⟨rfl, hb1⟩
    go_wp2
    go_ret2
    exact ⟨rfl, by repeat (first | exact Below.refl _ _ | refine bthen ?_ hb1 | refine Below.setCell ?_ (by simp) _ | refine balloc ?_ _ )⟩
  · have e1 : cV a b c d = cmp3 (a * d) (c * b) := by unfold cV; simp [hi]
    rw [chk2_ok hi] at H0
    rw [e1, chk2_ok hi]
    have H1 : Hid _ := H0
    obtain ⟨i1, i2⟩ := ok2_true hi
    obtain ⟨⟨a1, a2, a3, a4⟩, _⟩ := isr_true i1
    obtain ⟨⟨c1, c2, c3, c4⟩, _⟩ := isr_true i2
    have m1 := mulb a1 a2 (show -1000000 ≤ d by omega) c4
    have m2 := mulb c1 c2 (show -1000000 ≤ b by omega) a4
    clear H0 e1 hi i1 i2
    go_enter Try.func13, Try.ntmps13
    go_wp2_with fail
    refine (H1.out _).mono ?_
    rintro e w1 ⟨rfl, hb1⟩
    have r0 : w1.cell? ⟨w.heap.size, 0, none⟩ = some (.int .i64 a) := kept hb1 (by go_simp)
    have r1 : w1.cell? ⟨w.heap.size, 1, none⟩ = some (.int .i64 b) := kept hb1 (by go_simp)
    have r2 : w1.cell? ⟨w.heap.size + 1, 0, none⟩ = some (.int .i64 c) := kept hb1 (by go_simp)
    have r3 : w1.cell? ⟨w.heap.size + 1, 1, none⟩ = some (.int .i64 d) := kept hb1 (by go_simp)
    go_wp2_with fail
    refine (compare_any _ _ _).mono ?_
    rintro e w2 ⟨rfl, rfl⟩
    go_wp2
    go_ret2
    exact ⟨rfl, by repeat (first | exact Below.refl _ _ | refine bthen ?_ hb1 | refine Below.setCell ?_ (by simp) _ | refine balloc ?_ _ )⟩

set_option maxHeartbeats 1000000 in
theorem add_any (a b c d : Int) (w : World) :
    Calls Try.prog 14 #[.agg #[.int .i64 a, .int .i64 b], .agg #[.int .i64 c, .int .i64 d]] w fun e w' => e = .returned (.tuple #[.agg #[.int .i64 (adN a b c d), .int .i64 (adD a b c d)], .int .i64 (adE a b c d)]) ∧ Below w.heap.size w w' := by
  have H0 := both_any a b c d
  cases hi : ok2 a b c d
  · have e1 : adN a b c d = 0 := by unfold adN; simp [hi]
    have e2 : adD a b c d = 0 := by unfold adD; simp [hi]
    have e3 : adE a b c d = 3 := by unfold adE; simp [hi]
    rw [chk2_no hi] at H0
    rw [e1, e2, e3]
    have H1 : Hid _ := H0
    clear H0 e1 e2 e3 hi
    go_enter Try.func14, Try.ntmps14
    go_wp2_with fail
    refine (H1.out _).mono ?_
    rintro e w1 ⟨rfl, hb1⟩
    have s0 : w1.cell? ⟨w.heap.size + 1 + 1, 0, none⟩ = some (.int .i64 0) := kept hb1 (by go_simp)
    have s1 : w1.cell? ⟨w.heap.size + 1 + 1, 1, none⟩ = some (.int .i64 0) := kept hb1 (by go_simp)
    have f0 : w1.frozen? ⟨w.heap.size + 1 + 1, 0, none⟩ = false := keptF hb1 (v := .int .i64 0) (by go_simp) (by go_simp)
    have f1 : w1.frozen? ⟨w.heap.size + 1 + 1, 1, none⟩ = false := keptF hb1 (v := .int .i64 0) (by go_simp) (by go_simp)
    go_wp2
    exact bodyPost_ret (v := .tuple #[.agg #[.int .i64 0, .int .i64 0], .int .i64 3]) (by simp [results, Try.results14, go_sem, s0, s1]) rfl ⟨rfl, by repeat (first | exact Below.refl _ _ | refine bthen ?_ hb1 | refine Below.setCell ?_ (by simp; omega) _ | refine balloc ?_ _ )⟩
  · have e1 : adN a b c d = sN (a * d + c * b) (b * d) := by unfold adN; simp [hi]
    have e2 : adD a b c d = sD (a * d + c * b) (b * d) := by unfold adD; simp [hi]
    have e3 : adE a b c d = sE (a * d + c * b) (b * d) := by unfold adE; simp [hi]
    rw [chk2_ok hi] at H0
    rw [e1, e2, e3]
    have H1 : Hid _ := H0
    obtain ⟨i1, i2⟩ := ok2_true hi
    obtain ⟨⟨a1, a2, a3, a4⟩, _⟩ := isr_true i1
    obtain ⟨⟨c1, c2, c3, c4⟩, _⟩ := isr_true i2
    have m1 := mulb a1 a2 (show -1000000 ≤ d by omega) c4
    have m2 := mulb c1 c2 (show -1000000 ≤ b by omega) a4
    have m3 := mulb (show -1000000 ≤ b by omega) a4 (show -1000000 ≤ d by omega) c4
    have m4 := mulp a3 c3
    clear H0 e1 e2 e3 hi i1 i2
    go_enter Try.func14, Try.ntmps14
    go_wp2_with fail
    refine (H1.out _).mono ?_
    rintro e w1 ⟨rfl, hb1⟩
    have r0 : w1.cell? ⟨w.heap.size, 0, none⟩ = some (.int .i64 a) := kept hb1 (by go_simp)
    have r1 : w1.cell? ⟨w.heap.size, 1, none⟩ = some (.int .i64 b) := kept hb1 (by go_simp)
    have r2 : w1.cell? ⟨w.heap.size + 1, 0, none⟩ = some (.int .i64 c) := kept hb1 (by go_simp)
    have r3 : w1.cell? ⟨w.heap.size + 1, 1, none⟩ = some (.int .i64 d) := kept hb1 (by go_simp)
    have s0 : w1.cell? ⟨w.heap.size + 1 + 1, 0, none⟩ = some (.int .i64 0) := kept hb1 (by go_simp)
    have s1 : w1.cell? ⟨w.heap.size + 1 + 1, 1, none⟩ = some (.int .i64 0) := kept hb1 (by go_simp)
    have f0 : w1.frozen? ⟨w.heap.size + 1 + 1, 0, none⟩ = false := keptF hb1 (v := .int .i64 0) (by go_simp) (by go_simp)
    have f1 : w1.frozen? ⟨w.heap.size + 1 + 1, 1, none⟩ = false := keptF hb1 (v := .int .i64 0) (by go_simp) (by go_simp)
    go_wp2_with fail
    refine (settle_any _ _ _ (by omega) (by omega) (by omega) (by omega)).mono ?_
    rintro e w2 ⟨rfl, hb2⟩
    have s2 := kept hb2 s0
    have s3 := kept hb2 s1
    have f2 := keptF hb2 s0 f0
    have f3 := keptF hb2 s1 f1
    go_wp2
    exact bodyPost_ret (v := .tuple #[.agg #[.int .i64 (sN (a * d + c * b) (b * d)), .int .i64 (sD (a * d + c * b) (b * d))], .int .i64 (sE (a * d + c * b) (b * d))]) (by simp [results, Try.results14, go_sem, s2, s3]) rfl ⟨rfl, by repeat (first | exact Below.refl _ _ | refine bthen ?_ hb2 | refine bthen ?_ hb1 | refine Below.setCell ?_ (by simp; omega) _ | refine balloc ?_ _ )⟩

set_option maxHeartbeats 1000000 in
theorem mul_any (a b c d : Int) (w : World) :
    Calls Try.prog 15 #[.agg #[.int .i64 a, .int .i64 b], .agg #[.int .i64 c, .int .i64 d]] w fun e w' => e = .returned (.tuple #[.agg #[.int .i64 (muN a b c d), .int .i64 (muD a b c d)], .int .i64 (muE a b c d)]) ∧ Below w.heap.size w w' := by
  have H0 := both_any a b c d
  cases hi : ok2 a b c d
  · have e1 : muN a b c d = 0 := by unfold muN; simp [hi]
    have e2 : muD a b c d = 0 := by unfold muD; simp [hi]
    have e3 : muE a b c d = 3 := by unfold muE; simp [hi]
    rw [chk2_no hi] at H0
    rw [e1, e2, e3]
    have H1 : Hid _ := H0
    clear H0 e1 e2 e3 hi
    go_enter Try.func15, Try.ntmps15
    go_wp2_with fail
    refine (H1.out _).mono ?_
    rintro e w1 ⟨rfl, hb1⟩
    have s0 : w1.cell? ⟨w.heap.size + 1 + 1, 0, none⟩ = some (.int .i64 0) := kept hb1 (by go_simp)
    have s1 : w1.cell? ⟨w.heap.size + 1 + 1, 1, none⟩ = some (.int .i64 0) := kept hb1 (by go_simp)
    have f0 : w1.frozen? ⟨w.heap.size + 1 + 1, 0, none⟩ = false := keptF hb1 (v := .int .i64 0) (by go_simp) (by go_simp)
    have f1 : w1.frozen? ⟨w.heap.size + 1 + 1, 1, none⟩ = false := keptF hb1 (v := .int .i64 0) (by go_simp) (by go_simp)
    go_wp2
    exact bodyPost_ret (v := .tuple #[.agg #[.int .i64 0, .int .i64 0], .int .i64 3]) (by simp [results, Try.results15, go_sem, s0, s1]) rfl ⟨rfl, by repeat (first | exact Below.refl _ _ | refine bthen ?_ hb1 | refine Below.setCell ?_ (by simp; omega) _ | refine balloc ?_ _ )⟩
  · have e1 : muN a b c d = sN (a * c) (b * d) := by unfold muN; simp [hi]
    have e2 : muD a b c d = sD (a * c) (b * d) := by unfold muD; simp [hi]
    have e3 : muE a b c d = sE (a * c) (b * d) := by unfold muE; simp [hi]
    rw [chk2_ok hi] at H0
    rw [e1, e2, e3]
    have H1 : Hid _ := H0
    obtain ⟨i1, i2⟩ := ok2_true hi
    obtain ⟨⟨a1, a2, a3, a4⟩, _⟩ := isr_true i1
    obtain ⟨⟨c1, c2, c3, c4⟩, _⟩ := isr_true i2
    have m1 := mulb a1 a2 c1 c2
    have m3 := mulb (show -1000000 ≤ b by omega) a4 (show -1000000 ≤ d by omega) c4
    have m4 := mulp a3 c3
    clear H0 e1 e2 e3 hi i1 i2
    go_enter Try.func15, Try.ntmps15
    go_wp2_with fail
    refine (H1.out _).mono ?_
    rintro e w1 ⟨rfl, hb1⟩
    have r0 : w1.cell? ⟨w.heap.size, 0, none⟩ = some (.int .i64 a) := kept hb1 (by go_simp)
    have r1 : w1.cell? ⟨w.heap.size, 1, none⟩ = some (.int .i64 b) := kept hb1 (by go_simp)
    have r2 : w1.cell? ⟨w.heap.size + 1, 0, none⟩ = some (.int .i64 c) := kept hb1 (by go_simp)
    have r3 : w1.cell? ⟨w.heap.size + 1, 1, none⟩ = some (.int .i64 d) := kept hb1 (by go_simp)
    have s0 : w1.cell? ⟨w.heap.size + 1 + 1, 0, none⟩ = some (.int .i64 0) := kept hb1 (by go_simp)
    have s1 : w1.cell? ⟨w.heap.size + 1 + 1, 1, none⟩ = some (.int .i64 0) := kept hb1 (by go_simp)
    have f0 : w1.frozen? ⟨w.heap.size + 1 + 1, 0, none⟩ = false := keptF hb1 (v := .int .i64 0) (by go_simp) (by go_simp)
    have f1 : w1.frozen? ⟨w.heap.size + 1 + 1, 1, none⟩ = false := keptF hb1 (v := .int .i64 0) (by go_simp) (by go_simp)
    go_wp2_with fail
    refine (settle_any _ _ _ (by omega) (by omega) (by omega) (by omega)).mono ?_
    rintro e w2 ⟨rfl, hb2⟩
    have s2 := kept hb2 s0
    have s3 := kept hb2 s1
    have f2 := keptF hb2 s0 f0
    have f3 := keptF hb2 s1 f1
    go_wp2
    exact bodyPost_ret (v := .tuple #[.agg #[.int .i64 (sN (a * c) (b * d)), .int .i64 (sD (a * c) (b * d))], .int .i64 (sE (a * c) (b * d))]) (by simp [results, Try.results15, go_sem, s2, s3]) rfl ⟨rfl, by repeat (first | exact Below.refl _ _ | refine bthen ?_ hb2 | refine bthen ?_ hb1 | refine Below.setCell ?_ (by simp; omega) _ | refine balloc ?_ _ )⟩

end Go.Proofs.Ytihicidfpfkknaa
