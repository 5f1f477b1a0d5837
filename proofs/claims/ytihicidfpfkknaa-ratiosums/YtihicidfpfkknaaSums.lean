/-
  Proved: for every three ratios a, b and c, the law fellkeep.RatioSums returns true and leaves its arguments as they read. No condition.
-/
import Derived.Test.YtihicidfpfkknaaSumsPl
import Derived.ProofKit
import Derived.OpenShut
import Derived.Lib.SmallJoins
namespace Go.Proofs.Ytihicidfpfkknaa.Sums
open Go.ChangeShapes Go.WideShapes Go.ChangeAt Go.RowKit Go.Joins
open Pl

theorem half (w : World) : Calls Try.prog 14 #[.agg #[.int .i64 1, .int .i64 3], .agg #[.int .i64 1, .int .i64 6]] w fun e w' => e = .returned (.tuple #[.agg #[.int .i64 1, .int .i64 2], .int .i64 0]) ∧ Below w.heap.size w w' := by
  have h := add_any 1 3 1 6 w
  rw [show adN 1 3 1 6 = 1 from by decide, show adD 1 3 1 6 = 2 from by decide, show adE 1 3 1 6 = 0 from by decide] at h
  exact h

/-- What a call of Add or Mul is known to give. -/
def Gives (f : Nat) (a b c d n m e : Int) : Prop := ∀ w : World, Calls Try.prog f #[.agg #[.int .i64 a, .int .i64 b], .agg #[.int .i64 c, .int .i64 d]] w fun x w' => x = .returned (.tuple #[.agg #[.int .i64 n, .int .i64 m], .int .i64 e]) ∧ Below w.heap.size w w'

set_option maxHeartbeats 4000000 in
theorem walk1 (a0 a1 b0 b1 c0 c1 pN pD pE rN rD rE aN aD aE bN bD bE lN lD lE sN sD sE : Int) (w : World)
    (k1 : Gives 14 a0 a1 b0 b1 pN pD pE) (k2 : Gives 14 b0 b1 a0 a1 pN pD pE) (k3 : Gives 15 a0 a1 b0 b1 rN rD rE) (k4 : Gives 15 b0 b1 a0 a1 rN rD rE)
    (k5 : Gives 15 a0 a1 c0 c1 aN aD aE) (k6 : Gives 15 b0 b1 c0 c1 bN bD bE) (k7 : Gives 15 pN pD c0 c1 lN lD lE) (k8 : Gives 14 aN aD bN bD sN sD sE)
    (hs : pD ≠ 0 → aE = 0 → bE = 0 → lE = 0 → sE = 0 → lN = sN ∧ lD = sD) :
    Calls Try.prog 8 #[.agg #[.int .i64 a0, .int .i64 a1], .agg #[.int .i64 b0, .int .i64 b1], .agg #[.int .i64 c0, .int .i64 c1]] w fun e w' => e = .returned (.bool true) ∧ Below w.heap.size w w' := by
  have HS : Hid _ := hs
  clear hs
  go_enter Try.func8, Try.ntmps8
  go_wp2_with fail
  refine (half _).mono ?_
  rintro e w1 ⟨rfl, hb1⟩
  have f1a0 : w1.cell? ⟨w.heap.size, 0, none⟩ = some (.int .i64 a0) := kept hb1 (by go_simp)
  have f1a1 : w1.cell? ⟨w.heap.size, 1, none⟩ = some (.int .i64 a1) := kept hb1 (by go_simp)
  have f1b0 : w1.cell? ⟨w.heap.size + 1, 0, none⟩ = some (.int .i64 b0) := kept hb1 (by go_simp)
  have f1b1 : w1.cell? ⟨w.heap.size + 1, 1, none⟩ = some (.int .i64 b1) := kept hb1 (by go_simp)
  have f1c0 : w1.cell? ⟨w.heap.size + 1 + 1, 0, none⟩ = some (.int .i64 c0) := kept hb1 (by go_simp)
  have f1c1 : w1.cell? ⟨w.heap.size + 1 + 1, 1, none⟩ = some (.int .i64 c1) := kept hb1 (by go_simp)
  have g1a0 := kept_alloc (x := .cells #[.int .i64 1, .int .i64 2] 23) f1a0
  have g1a1 := kept_alloc (x := .cells #[.int .i64 1, .int .i64 2] 23) f1a1
  have g1b0 := kept_alloc (x := .cells #[.int .i64 1, .int .i64 2] 23) f1b0
  have g1b1 := kept_alloc (x := .cells #[.int .i64 1, .int .i64 2] 23) f1b1
  have g1c0 := kept_alloc (x := .cells #[.int .i64 1, .int .i64 2] 23) f1c0
  have g1c1 := kept_alloc (x := .cells #[.int .i64 1, .int .i64 2] 23) f1c1
  clear f1a0 f1a1 f1b0 f1b1 f1c0 f1c1
  have g1x0 : (w1.alloc (.cells #[.int .i64 1, .int .i64 2] 23)).cell? ⟨w1.heap.size, 0, none⟩ = some (.int .i64 1) := by go_simp
  have g1x1 : (w1.alloc (.cells #[.int .i64 1, .int .i64 2] 23)).cell? ⟨w1.heap.size, 1, none⟩ = some (.int .i64 2) := by go_simp
  go_wp2_with fail
  refine (k1 _).mono ?_
  rintro e w2 ⟨rfl, hb2⟩
  have f2a0 : w2.cell? ⟨w.heap.size, 0, none⟩ = some (.int .i64 a0) := kept hb2 g1a0
  have f2a1 : w2.cell? ⟨w.heap.size, 1, none⟩ = some (.int .i64 a1) := kept hb2 g1a1
  have f2b0 : w2.cell? ⟨w.heap.size + 1, 0, none⟩ = some (.int .i64 b0) := kept hb2 g1b0
  have f2b1 : w2.cell? ⟨w.heap.size + 1, 1, none⟩ = some (.int .i64 b1) := kept hb2 g1b1
  have f2c0 : w2.cell? ⟨w.heap.size + 1 + 1, 0, none⟩ = some (.int .i64 c0) := kept hb2 g1c0
  have f2c1 : w2.cell? ⟨w.heap.size + 1 + 1, 1, none⟩ = some (.int .i64 c1) := kept hb2 g1c1
  have f2x0 : w2.cell? ⟨w1.heap.size, 0, none⟩ = some (.int .i64 1) := kept hb2 g1x0
  have f2x1 : w2.cell? ⟨w1.heap.size, 1, none⟩ = some (.int .i64 2) := kept hb2 g1x1
  clear g1a0 g1a1 g1b0 g1b1 g1c0 g1c1 g1x0 g1x1
  have g2a0 := kept_alloc (x := .cells #[.int .i64 pN, .int .i64 pD] 23) f2a0
  have g2a1 := kept_alloc (x := .cells #[.int .i64 pN, .int .i64 pD] 23) f2a1
  have g2b0 := kept_alloc (x := .cells #[.int .i64 pN, .int .i64 pD] 23) f2b0
  have g2b1 := kept_alloc (x := .cells #[.int .i64 pN, .int .i64 pD] 23) f2b1
  have g2c0 := kept_alloc (x := .cells #[.int .i64 pN, .int .i64 pD] 23) f2c0
  have g2c1 := kept_alloc (x := .cells #[.int .i64 pN, .int .i64 pD] 23) f2c1
  have g2x0 := kept_alloc (x := .cells #[.int .i64 pN, .int .i64 pD] 23) f2x0
  have g2x1 := kept_alloc (x := .cells #[.int .i64 pN, .int .i64 pD] 23) f2x1
  clear f2a0 f2a1 f2b0 f2b1 f2c0 f2c1 f2x0 f2x1
  have g2p0 : (w2.alloc (.cells #[.int .i64 pN, .int .i64 pD] 23)).cell? ⟨w2.heap.size, 0, none⟩ = some (.int .i64 pN) := by go_simp
  have g2p1 : (w2.alloc (.cells #[.int .i64 pN, .int .i64 pD] 23)).cell? ⟨w2.heap.size, 1, none⟩ = some (.int .i64 pD) := by go_simp
  go_wp2_with fail
  clear g2x0 g2x1
  refine (k2 _).mono ?_
  rintro e w3 ⟨rfl, hb3⟩
  have f3a0 : w3.cell? ⟨w.heap.size, 0, none⟩ = some (.int .i64 a0) := kept hb3 g2a0
  have f3a1 : w3.cell? ⟨w.heap.size, 1, none⟩ = some (.int .i64 a1) := kept hb3 g2a1
  have f3b0 : w3.cell? ⟨w.heap.size + 1, 0, none⟩ = some (.int .i64 b0) := kept hb3 g2b0
  have f3b1 : w3.cell? ⟨w.heap.size + 1, 1, none⟩ = some (.int .i64 b1) := kept hb3 g2b1
  have f3c0 : w3.cell? ⟨w.heap.size + 1 + 1, 0, none⟩ = some (.int .i64 c0) := kept hb3 g2c0
  have f3c1 : w3.cell? ⟨w.heap.size + 1 + 1, 1, none⟩ = some (.int .i64 c1) := kept hb3 g2c1
  have f3p0 : w3.cell? ⟨w2.heap.size, 0, none⟩ = some (.int .i64 pN) := kept hb3 g2p0
  have f3p1 : w3.cell? ⟨w2.heap.size, 1, none⟩ = some (.int .i64 pD) := kept hb3 g2p1
  clear g2a0 g2a1 g2b0 g2b1 g2c0 g2c1 g2p0 g2p1
  have g3a0 := kept_alloc (x := .cells #[.int .i64 pN, .int .i64 pD] 23) f3a0
  have g3a1 := kept_alloc (x := .cells #[.int .i64 pN, .int .i64 pD] 23) f3a1
  have g3b0 := kept_alloc (x := .cells #[.int .i64 pN, .int .i64 pD] 23) f3b0
  have g3b1 := kept_alloc (x := .cells #[.int .i64 pN, .int .i64 pD] 23) f3b1
  have g3c0 := kept_alloc (x := .cells #[.int .i64 pN, .int .i64 pD] 23) f3c0
  have g3c1 := kept_alloc (x := .cells #[.int .i64 pN, .int .i64 pD] 23) f3c1
  have g3p0 := kept_alloc (x := .cells #[.int .i64 pN, .int .i64 pD] 23) f3p0
  have g3p1 := kept_alloc (x := .cells #[.int .i64 pN, .int .i64 pD] 23) f3p1
  clear f3a0 f3a1 f3b0 f3b1 f3c0 f3c1 f3p0 f3p1
  have g3q0 : (w3.alloc (.cells #[.int .i64 pN, .int .i64 pD] 23)).cell? ⟨w3.heap.size, 0, none⟩ = some (.int .i64 pN) := by go_simp
  have g3q1 : (w3.alloc (.cells #[.int .i64 pN, .int .i64 pD] 23)).cell? ⟨w3.heap.size, 1, none⟩ = some (.int .i64 pD) := by go_simp
  go_wp2_with fail
  refine (k3 _).mono ?_
  rintro e w4 ⟨rfl, hb4⟩
  have f4a0 : w4.cell? ⟨w.heap.size, 0, none⟩ = some (.int .i64 a0) := kept hb4 g3a0
  have f4a1 : w4.cell? ⟨w.heap.size, 1, none⟩ = some (.int .i64 a1) := kept hb4 g3a1
  have f4b0 : w4.cell? ⟨w.heap.size + 1, 0, none⟩ = some (.int .i64 b0) := kept hb4 g3b0
  have f4b1 : w4.cell? ⟨w.heap.size + 1, 1, none⟩ = some (.int .i64 b1) := kept hb4 g3b1
  have f4c0 : w4.cell? ⟨w.heap.size + 1 + 1, 0, none⟩ = some (.int .i64 c0) := kept hb4 g3c0
  have f4c1 : w4.cell? ⟨w.heap.size + 1 + 1, 1, none⟩ = some (.int .i64 c1) := kept hb4 g3c1
  have f4p0 : w4.cell? ⟨w2.heap.size, 0, none⟩ = some (.int .i64 pN) := kept hb4 g3p0
  have f4p1 : w4.cell? ⟨w2.heap.size, 1, none⟩ = some (.int .i64 pD) := kept hb4 g3p1
  have f4q0 : w4.cell? ⟨w3.heap.size, 0, none⟩ = some (.int .i64 pN) := kept hb4 g3q0
  have f4q1 : w4.cell? ⟨w3.heap.size, 1, none⟩ = some (.int .i64 pD) := kept hb4 g3q1
  clear g3a0 g3a1 g3b0 g3b1 g3c0 g3c1 g3p0 g3p1 g3q0 g3q1
  have g4a0 := kept_alloc (x := .cells #[.int .i64 rN, .int .i64 rD] 23) f4a0
  have g4a1 := kept_alloc (x := .cells #[.int .i64 rN, .int .i64 rD] 23) f4a1
  have g4b0 := kept_alloc (x := .cells #[.int .i64 rN, .int .i64 rD] 23) f4b0
  have g4b1 := kept_alloc (x := .cells #[.int .i64 rN, .int .i64 rD] 23) f4b1
  have g4c0 := kept_alloc (x := .cells #[.int .i64 rN, .int .i64 rD] 23) f4c0
  have g4c1 := kept_alloc (x := .cells #[.int .i64 rN, .int .i64 rD] 23) f4c1
  have g4p0 := kept_alloc (x := .cells #[.int .i64 rN, .int .i64 rD] 23) f4p0
  have g4p1 := kept_alloc (x := .cells #[.int .i64 rN, .int .i64 rD] 23) f4p1
  have g4q0 := kept_alloc (x := .cells #[.int .i64 rN, .int .i64 rD] 23) f4q0
  have g4q1 := kept_alloc (x := .cells #[.int .i64 rN, .int .i64 rD] 23) f4q1
  clear f4a0 f4a1 f4b0 f4b1 f4c0 f4c1 f4p0 f4p1 f4q0 f4q1
  have g4r0 : (w4.alloc (.cells #[.int .i64 rN, .int .i64 rD] 23)).cell? ⟨w4.heap.size, 0, none⟩ = some (.int .i64 rN) := by go_simp
  have g4r1 : (w4.alloc (.cells #[.int .i64 rN, .int .i64 rD] 23)).cell? ⟨w4.heap.size, 1, none⟩ = some (.int .i64 rD) := by go_simp
  go_wp2_with fail
  refine (k4 _).mono ?_
  rintro e w5 ⟨rfl, hb5⟩
  have f5a0 : w5.cell? ⟨w.heap.size, 0, none⟩ = some (.int .i64 a0) := kept hb5 g4a0
  have f5a1 : w5.cell? ⟨w.heap.size, 1, none⟩ = some (.int .i64 a1) := kept hb5 g4a1
  have f5b0 : w5.cell? ⟨w.heap.size + 1, 0, none⟩ = some (.int .i64 b0) := kept hb5 g4b0
  have f5b1 : w5.cell? ⟨w.heap.size + 1, 1, none⟩ = some (.int .i64 b1) := kept hb5 g4b1
  have f5c0 : w5.cell? ⟨w.heap.size + 1 + 1, 0, none⟩ = some (.int .i64 c0) := kept hb5 g4c0
  have f5c1 : w5.cell? ⟨w.heap.size + 1 + 1, 1, none⟩ = some (.int .i64 c1) := kept hb5 g4c1
  have f5p0 : w5.cell? ⟨w2.heap.size, 0, none⟩ = some (.int .i64 pN) := kept hb5 g4p0
  have f5p1 : w5.cell? ⟨w2.heap.size, 1, none⟩ = some (.int .i64 pD) := kept hb5 g4p1
  have f5q0 : w5.cell? ⟨w3.heap.size, 0, none⟩ = some (.int .i64 pN) := kept hb5 g4q0
  have f5q1 : w5.cell? ⟨w3.heap.size, 1, none⟩ = some (.int .i64 pD) := kept hb5 g4q1
  have f5r0 : w5.cell? ⟨w4.heap.size, 0, none⟩ = some (.int .i64 rN) := kept hb5 g4r0
  have f5r1 : w5.cell? ⟨w4.heap.size, 1, none⟩ = some (.int .i64 rD) := kept hb5 g4r1
  clear g4a0 g4a1 g4b0 g4b1 g4c0 g4c1 g4p0 g4p1 g4q0 g4q1 g4r0 g4r1
  have g5a0 := kept_alloc (x := .cells #[.int .i64 rN, .int .i64 rD] 23) f5a0
  have g5a1 := kept_alloc (x := .cells #[.int .i64 rN, .int .i64 rD] 23) f5a1
  have g5b0 := kept_alloc (x := .cells #[.int .i64 rN, .int .i64 rD] 23) f5b0
  have g5b1 := kept_alloc (x := .cells #[.int .i64 rN, .int .i64 rD] 23) f5b1
  have g5c0 := kept_alloc (x := .cells #[.int .i64 rN, .int .i64 rD] 23) f5c0
  have g5c1 := kept_alloc (x := .cells #[.int .i64 rN, .int .i64 rD] 23) f5c1
  have g5p0 := kept_alloc (x := .cells #[.int .i64 rN, .int .i64 rD] 23) f5p0
  have g5p1 := kept_alloc (x := .cells #[.int .i64 rN, .int .i64 rD] 23) f5p1
  have g5q0 := kept_alloc (x := .cells #[.int .i64 rN, .int .i64 rD] 23) f5q0
  have g5q1 := kept_alloc (x := .cells #[.int .i64 rN, .int .i64 rD] 23) f5q1
  have g5r0 := kept_alloc (x := .cells #[.int .i64 rN, .int .i64 rD] 23) f5r0
  have g5r1 := kept_alloc (x := .cells #[.int .i64 rN, .int .i64 rD] 23) f5r1
  clear f5a0 f5a1 f5b0 f5b1 f5c0 f5c1 f5p0 f5p1 f5q0 f5q1 f5r0 f5r1
  have g5s0 : (w5.alloc (.cells #[.int .i64 rN, .int .i64 rD] 23)).cell? ⟨w5.heap.size, 0, none⟩ = some (.int .i64 rN) := by go_simp
  have g5s1 : (w5.alloc (.cells #[.int .i64 rN, .int .i64 rD] 23)).cell? ⟨w5.heap.size, 1, none⟩ = some (.int .i64 rD) := by go_simp
  go_wp2_with fail
  refine (k5 _).mono ?_
  rintro e w6 ⟨rfl, hb6⟩
  have f6a0 : w6.cell? ⟨w.heap.size, 0, none⟩ = some (.int .i64 a0) := kept hb6 g5a0
  have f6a1 : w6.cell? ⟨w.heap.size, 1, none⟩ = some (.int .i64 a1) := kept hb6 g5a1
  have f6b0 : w6.cell? ⟨w.heap.size + 1, 0, none⟩ = some (.int .i64 b0) := kept hb6 g5b0
  have f6b1 : w6.cell? ⟨w.heap.size + 1, 1, none⟩ = some (.int .i64 b1) := kept hb6 g5b1
  have f6c0 : w6.cell? ⟨w.heap.size + 1 + 1, 0, none⟩ = some (.int .i64 c0) := kept hb6 g5c0
  have f6c1 : w6.cell? ⟨w.heap.size + 1 + 1, 1, none⟩ = some (.int .i64 c1) := kept hb6 g5c1
  have f6p0 : w6.cell? ⟨w2.heap.size, 0, none⟩ = some (.int .i64 pN) := kept hb6 g5p0
  have f6p1 : w6.cell? ⟨w2.heap.size, 1, none⟩ = some (.int .i64 pD) := kept hb6 g5p1
  have f6q0 : w6.cell? ⟨w3.heap.size, 0, none⟩ = some (.int .i64 pN) := kept hb6 g5q0
  have f6q1 : w6.cell? ⟨w3.heap.size, 1, none⟩ = some (.int .i64 pD) := kept hb6 g5q1
  have f6r0 : w6.cell? ⟨w4.heap.size, 0, none⟩ = some (.int .i64 rN) := kept hb6 g5r0
  have f6r1 : w6.cell? ⟨w4.heap.size, 1, none⟩ = some (.int .i64 rD) := kept hb6 g5r1
  have f6s0 : w6.cell? ⟨w5.heap.size, 0, none⟩ = some (.int .i64 rN) := kept hb6 g5s0
  have f6s1 : w6.cell? ⟨w5.heap.size, 1, none⟩ = some (.int .i64 rD) := kept hb6 g5s1
  clear g5a0 g5a1 g5b0 g5b1 g5c0 g5c1 g5p0 g5p1 g5q0 g5q1 g5r0 g5r1 g5s0 g5s1
  have g6a0 := kept_alloc (x := .cells #[.int .i64 aN, .int .i64 aD] 23) f6a0
  have g6a1 := kept_alloc (x := .cells #[.int .i64 aN, .int .i64 aD] 23) f6a1
  have g6b0 := kept_alloc (x := .cells #[.int .i64 aN, .int .i64 aD] 23) f6b0
  have g6b1 := kept_alloc (x := .cells #[.int .i64 aN, .int .i64 aD] 23) f6b1
  have g6c0 := kept_alloc (x := .cells #[.int .i64 aN, .int .i64 aD] 23) f6c0
  have g6c1 := kept_alloc (x := .cells #[.int .i64 aN, .int .i64 aD] 23) f6c1
  have g6p0 := kept_alloc (x := .cells #[.int .i64 aN, .int .i64 aD] 23) f6p0
  have g6p1 := kept_alloc (x := .cells #[.int .i64 aN, .int .i64 aD] 23) f6p1
  have g6q0 := kept_alloc (x := .cells #[.int .i64 aN, .int .i64 aD] 23) f6q0
  have g6q1 := kept_alloc (x := .cells #[.int .i64 aN, .int .i64 aD] 23) f6q1
  have g6r0 := kept_alloc (x := .cells #[.int .i64 aN, .int .i64 aD] 23) f6r0
  have g6r1 := kept_alloc (x := .cells #[.int .i64 aN, .int .i64 aD] 23) f6r1
  have g6s0 := kept_alloc (x := .cells #[.int .i64 aN, .int .i64 aD] 23) f6s0
  have g6s1 := kept_alloc (x := .cells #[.int .i64 aN, .int .i64 aD] 23) f6s1
  clear f6a0 f6a1 f6b0 f6b1 f6c0 f6c1 f6p0 f6p1 f6q0 f6q1 f6r0 f6r1 f6s0 f6s1
  have g6m0 : (w6.alloc (.cells #[.int .i64 aN, .int .i64 aD] 23)).cell? ⟨w6.heap.size, 0, none⟩ = some (.int .i64 aN) := by go_simp
  have g6m1 : (w6.alloc (.cells #[.int .i64 aN, .int .i64 aD] 23)).cell? ⟨w6.heap.size, 1, none⟩ = some (.int .i64 aD) := by go_simp
  go_wp2_with fail
  clear g6q0 g6q1
  clear g6r0 g6r1
  clear g6s0 g6s1
  refine (k6 _).mono ?_
  rintro e w7 ⟨rfl, hb7⟩
  have f7a0 : w7.cell? ⟨w.heap.size, 0, none⟩ = some (.int .i64 a0) := kept hb7 g6a0
  have f7a1 : w7.cell? ⟨w.heap.size, 1, none⟩ = some (.int .i64 a1) := kept hb7 g6a1
  have f7b0 : w7.cell? ⟨w.heap.size + 1, 0, none⟩ = some (.int .i64 b0) := kept hb7 g6b0
  have f7b1 : w7.cell? ⟨w.heap.size + 1, 1, none⟩ = some (.int .i64 b1) := kept hb7 g6b1
  have f7c0 : w7.cell? ⟨w.heap.size + 1 + 1, 0, none⟩ = some (.int .i64 c0) := kept hb7 g6c0
  have f7c1 : w7.cell? ⟨w.heap.size + 1 + 1, 1, none⟩ = some (.int .i64 c1) := kept hb7 g6c1
  have f7p0 : w7.cell? ⟨w2.heap.size, 0, none⟩ = some (.int .i64 pN) := kept hb7 g6p0
  have f7p1 : w7.cell? ⟨w2.heap.size, 1, none⟩ = some (.int .i64 pD) := kept hb7 g6p1
  have f7m0 : w7.cell? ⟨w6.heap.size, 0, none⟩ = some (.int .i64 aN) := kept hb7 g6m0
  have f7m1 : w7.cell? ⟨w6.heap.size, 1, none⟩ = some (.int .i64 aD) := kept hb7 g6m1
  clear g6a0 g6a1 g6b0 g6b1 g6c0 g6c1 g6p0 g6p1 g6m0 g6m1
  have g7a0 := kept_alloc (x := .cells #[.int .i64 bN, .int .i64 bD] 23) f7a0
  have g7a1 := kept_alloc (x := .cells #[.int .i64 bN, .int .i64 bD] 23) f7a1
  have g7b0 := kept_alloc (x := .cells #[.int .i64 bN, .int .i64 bD] 23) f7b0
  have g7b1 := kept_alloc (x := .cells #[.int .i64 bN, .int .i64 bD] 23) f7b1
  have g7c0 := kept_alloc (x := .cells #[.int .i64 bN, .int .i64 bD] 23) f7c0
  have g7c1 := kept_alloc (x := .cells #[.int .i64 bN, .int .i64 bD] 23) f7c1
  have g7p0 := kept_alloc (x := .cells #[.int .i64 bN, .int .i64 bD] 23) f7p0
  have g7p1 := kept_alloc (x := .cells #[.int .i64 bN, .int .i64 bD] 23) f7p1
  have g7m0 := kept_alloc (x := .cells #[.int .i64 bN, .int .i64 bD] 23) f7m0
  have g7m1 := kept_alloc (x := .cells #[.int .i64 bN, .int .i64 bD] 23) f7m1
  clear f7a0 f7a1 f7b0 f7b1 f7c0 f7c1 f7p0 f7p1 f7m0 f7m1
  have g7n0 : (w7.alloc (.cells #[.int .i64 bN, .int .i64 bD] 23)).cell? ⟨w7.heap.size, 0, none⟩ = some (.int .i64 bN) := by go_simp
  have g7n1 : (w7.alloc (.cells #[.int .i64 bN, .int .i64 bD] 23)).cell? ⟨w7.heap.size, 1, none⟩ = some (.int .i64 bD) := by go_simp
  go_wp2_with fail
  clear g7a0 g7a1
  clear g7b0 g7b1
  refine (k7 _).mono ?_
  rintro e w8 ⟨rfl, hb8⟩
  have f8c0 : w8.cell? ⟨w.heap.size + 1 + 1, 0, none⟩ = some (.int .i64 c0) := kept hb8 g7c0
  have f8c1 : w8.cell? ⟨w.heap.size + 1 + 1, 1, none⟩ = some (.int .i64 c1) := kept hb8 g7c1
  have f8p0 : w8.cell? ⟨w2.heap.size, 0, none⟩ = some (.int .i64 pN) := kept hb8 g7p0
  have f8p1 : w8.cell? ⟨w2.heap.size, 1, none⟩ = some (.int .i64 pD) := kept hb8 g7p1
  have f8m0 : w8.cell? ⟨w6.heap.size, 0, none⟩ = some (.int .i64 aN) := kept hb8 g7m0
  have f8m1 : w8.cell? ⟨w6.heap.size, 1, none⟩ = some (.int .i64 aD) := kept hb8 g7m1
  have f8n0 : w8.cell? ⟨w7.heap.size, 0, none⟩ = some (.int .i64 bN) := kept hb8 g7n0
  have f8n1 : w8.cell? ⟨w7.heap.size, 1, none⟩ = some (.int .i64 bD) := kept hb8 g7n1
  clear g7c0 g7c1 g7p0 g7p1 g7m0 g7m1 g7n0 g7n1
  have g8c0 := kept_alloc (x := .cells #[.int .i64 lN, .int .i64 lD] 23) f8c0
  have g8c1 := kept_alloc (x := .cells #[.int .i64 lN, .int .i64 lD] 23) f8c1
  have g8p0 := kept_alloc (x := .cells #[.int .i64 lN, .int .i64 lD] 23) f8p0
  have g8p1 := kept_alloc (x := .cells #[.int .i64 lN, .int .i64 lD] 23) f8p1
  have g8m0 := kept_alloc (x := .cells #[.int .i64 lN, .int .i64 lD] 23) f8m0
  have g8m1 := kept_alloc (x := .cells #[.int .i64 lN, .int .i64 lD] 23) f8m1
  have g8n0 := kept_alloc (x := .cells #[.int .i64 lN, .int .i64 lD] 23) f8n0
  have g8n1 := kept_alloc (x := .cells #[.int .i64 lN, .int .i64 lD] 23) f8n1
  clear f8c0 f8c1 f8p0 f8p1 f8m0 f8m1 f8n0 f8n1
  have g8l0 : (w8.alloc (.cells #[.int .i64 lN, .int .i64 lD] 23)).cell? ⟨w8.heap.size, 0, none⟩ = some (.int .i64 lN) := by go_simp
  have g8l1 : (w8.alloc (.cells #[.int .i64 lN, .int .i64 lD] 23)).cell? ⟨w8.heap.size, 1, none⟩ = some (.int .i64 lD) := by go_simp
  go_wp2_with fail
  clear g8c0 g8c1
  refine (k8 _).mono ?_
  rintro e w9 ⟨rfl, hb9⟩
  have f9p0 : w9.cell? ⟨w2.heap.size, 0, none⟩ = some (.int .i64 pN) := kept hb9 g8p0
  have f9p1 : w9.cell? ⟨w2.heap.size, 1, none⟩ = some (.int .i64 pD) := kept hb9 g8p1
  have f9m0 : w9.cell? ⟨w6.heap.size, 0, none⟩ = some (.int .i64 aN) := kept hb9 g8m0
  have f9m1 : w9.cell? ⟨w6.heap.size, 1, none⟩ = some (.int .i64 aD) := kept hb9 g8m1
  have f9n0 : w9.cell? ⟨w7.heap.size, 0, none⟩ = some (.int .i64 bN) := kept hb9 g8n0
  have f9n1 : w9.cell? ⟨w7.heap.size, 1, none⟩ = some (.int .i64 bD) := kept hb9 g8n1
  have f9l0 : w9.cell? ⟨w8.heap.size, 0, none⟩ = some (.int .i64 lN) := kept hb9 g8l0
  have f9l1 : w9.cell? ⟨w8.heap.size, 1, none⟩ = some (.int .i64 lD) := kept hb9 g8l1
  clear g8p0 g8p1 g8m0 g8m1 g8n0 g8n1 g8l0 g8l1
  have g9p0 := kept_alloc (x := .cells #[.int .i64 sN, .int .i64 sD] 23) f9p0
  have g9p1 := kept_alloc (x := .cells #[.int .i64 sN, .int .i64 sD] 23) f9p1
  have g9m0 := kept_alloc (x := .cells #[.int .i64 sN, .int .i64 sD] 23) f9m0
  have g9m1 := kept_alloc (x := .cells #[.int .i64 sN, .int .i64 sD] 23) f9m1
  have g9n0 := kept_alloc (x := .cells #[.int .i64 sN, .int .i64 sD] 23) f9n0
  have g9n1 := kept_alloc (x := .cells #[.int .i64 sN, .int .i64 sD] 23) f9n1
  have g9l0 := kept_alloc (x := .cells #[.int .i64 sN, .int .i64 sD] 23) f9l0
  have g9l1 := kept_alloc (x := .cells #[.int .i64 sN, .int .i64 sD] 23) f9l1
  clear f9p0 f9p1 f9m0 f9m1 f9n0 f9n1 f9l0 f9l1
  have g9t0 : (w9.alloc (.cells #[.int .i64 sN, .int .i64 sD] 23)).cell? ⟨w9.heap.size, 0, none⟩ = some (.int .i64 sN) := by go_simp
  have g9t1 : (w9.alloc (.cells #[.int .i64 sN, .int .i64 sD] 23)).cell? ⟨w9.heap.size, 1, none⟩ = some (.int .i64 sD) := by go_simp
  by_cases z0 : pD = 0
  · subst z0
    go_wp2
    go_ret
    exact ⟨rfl, by repeat (first | exact Below.refl _ _ | refine bthen ?_ hb9 | refine bthen ?_ hb8 | refine bthen ?_ hb7 | refine bthen ?_ hb6 | refine bthen ?_ hb5 | refine bthen ?_ hb4 | refine bthen ?_ hb3 | refine bthen ?_ hb2 | refine bthen ?_ hb1 | refine balloc ?_ _ )⟩
  have z0' : (pD == 0) = false := by simp [z0]
  by_cases zaE : ¬ aE = 0
  · have naE : (aE == 0) = false := by simp [zaE]
    have naE' : (aE != 0) = true := by simp [zaE]
    go_wp2
    go_ret
    exact ⟨rfl, by repeat (first | exact Below.refl _ _ | refine bthen ?_ hb9 | refine bthen ?_ hb8 | refine bthen ?_ hb7 | refine bthen ?_ hb6 | refine bthen ?_ hb5 | refine bthen ?_ hb4 | refine bthen ?_ hb3 | refine bthen ?_ hb2 | refine bthen ?_ hb1 | refine balloc ?_ _ )⟩
  have yaE := Decidable.not_not.1 zaE
  clear zaE
  subst yaE
  by_cases zbE : ¬ bE = 0
  · have nbE : (bE == 0) = false := by simp [zbE]
    have nbE' : (bE != 0) = true := by simp [zbE]
    go_wp2
    go_ret
    exact ⟨rfl, by repeat (first | exact Below.refl _ _ | refine bthen ?_ hb9 | refine bthen ?_ hb8 | refine bthen ?_ hb7 | refine bthen ?_ hb6 | refine bthen ?_ hb5 | refine bthen ?_ hb4 | refine bthen ?_ hb3 | refine bthen ?_ hb2 | refine bthen ?_ hb1 | refine balloc ?_ _ )⟩
  have ybE := Decidable.not_not.1 zbE
  clear zbE
  subst ybE
  by_cases zlE : ¬ lE = 0
  · have nlE : (lE == 0) = false := by simp [zlE]
    have nlE' : (lE != 0) = true := by simp [zlE]
    go_wp2
    go_ret
    exact ⟨rfl, by repeat (first | exact Below.refl _ _ | refine bthen ?_ hb9 | refine bthen ?_ hb8 | refine bthen ?_ hb7 | refine bthen ?_ hb6 | refine bthen ?_ hb5 | refine bthen ?_ hb4 | refine bthen ?_ hb3 | refine bthen ?_ hb2 | refine bthen ?_ hb1 | refine balloc ?_ _ )⟩
  have ylE := Decidable.not_not.1 zlE
  clear zlE
  subst ylE
  by_cases zsE : ¬ sE = 0
  · have nsE : (sE == 0) = false := by simp [zsE]
    have nsE' : (sE != 0) = true := by simp [zsE]
    go_wp2
    go_ret
    exact ⟨rfl, by repeat (first | exact Below.refl _ _ | refine bthen ?_ hb9 | refine bthen ?_ hb8 | refine bthen ?_ hb7 | refine bthen ?_ hb6 | refine bthen ?_ hb5 | refine bthen ?_ hb4 | refine bthen ?_ hb3 | refine bthen ?_ hb2 | refine bthen ?_ hb1 | refine balloc ?_ _ )⟩
  have ysE := Decidable.not_not.1 zsE
  clear zsE
  subst ysE
  obtain ⟨rfl, rfl⟩ := HS.out z0 rfl rfl rfl rfl
  go_wp2
  go_ret
  exact ⟨rfl, by repeat (first | exact Below.refl _ _ | refine bthen ?_ hb9 | refine bthen ?_ hb8 | refine bthen ?_ hb7 | refine bthen ?_ hb6 | refine bthen ?_ hb5 | refine bthen ?_ hb4 | refine bthen ?_ hb3 | refine bthen ?_ hb2 | refine bthen ?_ hb1 | refine balloc ?_ _ )⟩

theorem walk (a0 a1 b0 b1 c0 c1 : Int) (w : World) :
    Calls Try.prog 8 #[.agg #[.int .i64 a0, .int .i64 a1], .agg #[.int .i64 b0, .int .i64 b1], .agg #[.int .i64 c0, .int .i64 c1]] w fun e w' => e = .returned (.bool true) ∧ Below w.heap.size w w' := by
  obtain ⟨e1, e2, e3⟩ := ad_comm b0 b1 a0 a1
  obtain ⟨e4, e5, e6⟩ := mu_comm b0 b1 a0 a1
  have k2 : Gives 14 b0 b1 a0 a1 _ _ _ := add_any b0 b1 a0 a1
  rw [e1, e2, e3] at k2
  have k4 : Gives 15 b0 b1 a0 a1 _ _ _ := mul_any b0 b1 a0 a1
  rw [e4, e5, e6] at k4
  exact walk1 a0 a1 b0 b1 c0 c1 _ _ _ _ _ _ _ _ _ _ _ _ _ _ _ _ _ _ w (add_any a0 a1 b0 b1) k2 (mul_any a0 a1 b0 b1) k4 (mul_any a0 a1 c0 c1) (mul_any b0 b1 c0 c1) (mul_any _ _ c0 c1) (add_any _ _ _ _)
    (fun h0 h1 h2 h3 h4 => spread a0 a1 b0 b1 c0 c1 _ _ _ _ _ _ rfl rfl rfl rfl rfl rfl h0 h1 h2 h3 h4)

/-! ### THE ROW's STEP -/
theorem own : ownKnob Try.prog.godebug = none := by kernel_rfl
theorem cells23 : Try.prog.cellsOf 23 = 2 := by kernel_rfl

set_option maxRecDepth 100000 in
theorem lifted (os : Os) (started : os.Started) (H : Type) (enc : TypeId × Value → H) :
    ReturnsInHanded {} Try.checked os 8 .any (Rows.ratioSumsSpec.pre6 enc Try.prog Try.f8 Rows.ratioSumsRow.domain false) (Rows.ratioSumsSpec.post enc Try.prog Try.f8 false true false false) := by
  refine returnsInHanded_of_change (C := Try.checked) own started (by kernel_rfl) Try.func8
    (ChangeSpec.witness6 (enc := enc) (C := Try.checked) false ⟨#[], #[.agg #[.int .i64 0, .int .i64 0], .agg #[.int .i64 0, .int .i64 0], .agg #[.int .i64 0, .int .i64 0]], []⟩ 8 (by kernel_rfl) (by kernel_rfl) (by kernel_rfl) (by kernel_rfl)) ?_
  intro W base args ds gs before hval0 hW _ _
  have hval : ∀ (j : Nat) t v, Try.f8.params[j]? = some t → args[j]? = some v → Value.okWide Try.prog W .any base t v := hval0
  have hW' := hW
  obtain ⟨p, q, hA0, hV, rfl, _, _⟩ := hW
  have hA : DataW.TrodAll enc Try.prog W 0 (fun _ => true) true Try.f8.params.toList args.toList ds p := hA0
  rw [Try.params8] at hA hval
  obtain ⟨v0, v1, v2, d0, d1, d2, p0, p1, p2, rfl, rfl, rfl, h0, h1, h2⟩ := trodAll_three hA
  obtain ⟨rfl, rfl⟩ := trodVars_none hV
  obtain ⟨c00, c01, y00, y01, m0, rfl, rfl, rfl, hy00, hy01⟩ := open_agg2 Try.underlying23 (by kernel_rfl) cells23 (hval 0 23 v0 rfl rfl) h0
  obtain ⟨a0, e00, rfl, wa0⟩ := DataW.trod_int Try.underlying3 hy00
  obtain ⟨b0, e01, rfl, wb0⟩ := DataW.trod_int Try.underlying3 hy01
  simp at e00 e01
  subst e00 e01
  obtain ⟨c10, c11, y10, y11, m1, rfl, rfl, rfl, hy10, hy11⟩ := open_agg2 Try.underlying23 (by kernel_rfl) cells23 (hval 1 23 v1 rfl rfl) h1
  obtain ⟨a1, e10, rfl, wa1⟩ := DataW.trod_int Try.underlying3 hy10
  obtain ⟨b1, e11, rfl, wb1⟩ := DataW.trod_int Try.underlying3 hy11
  simp at e10 e11
  subst e10 e11
  obtain ⟨c20, c21, y20, y21, m2, rfl, rfl, rfl, hy20, hy21⟩ := open_agg2 Try.underlying23 (by kernel_rfl) cells23 (hval 2 23 v2 rfl rfl) h2
  obtain ⟨a2, e20, rfl, wa2⟩ := DataW.trod_int Try.underlying3 hy20
  obtain ⟨b2, e21, rfl, wb2⟩ := DataW.trod_int Try.underlying3 hy21
  simp at e20 e21
  subst e20 e21
  clear hA0 hval0
  simp only [List.append_nil] at hW'
  have structReads0 : ∀ (W' : World) (sp : Nat → Bool), DataW.Trod enc Try.prog W' 0 sp true 23 (.agg #[.int .i64 a0, .int .i64 b0]) (.agg [.lit (.int .i64 a0), .lit (.int .i64 b0)]) [] := fun W' sp =>
    shut_agg2 (y0 := (.lit (.int .i64 a0), [])) (y1 := (.lit (.int .i64 b0), [])) Try.underlying23 (by kernel_rfl) cells23 ⟨1, by simp [DataW.trod, Try.underlying3, wa0]⟩ ⟨1, by simp [DataW.trod, Try.underlying3, wb0]⟩
  have structReads1 : ∀ (W' : World) (sp : Nat → Bool), DataW.Trod enc Try.prog W' 0 sp true 23 (.agg #[.int .i64 a1, .int .i64 b1]) (.agg [.lit (.int .i64 a1), .lit (.int .i64 b1)]) [] := fun W' sp =>
    shut_agg2 (y0 := (.lit (.int .i64 a1), [])) (y1 := (.lit (.int .i64 b1), [])) Try.underlying23 (by kernel_rfl) cells23 ⟨1, by simp [DataW.trod, Try.underlying3, wa1]⟩ ⟨1, by simp [DataW.trod, Try.underlying3, wb1]⟩
  have structReads2 : ∀ (W' : World) (sp : Nat → Bool), DataW.Trod enc Try.prog W' 0 sp true 23 (.agg #[.int .i64 a2, .int .i64 b2]) (.agg [.lit (.int .i64 a2), .lit (.int .i64 b2)]) [] := fun W' sp =>
    shut_agg2 (y0 := (.lit (.int .i64 a2), [])) (y1 := (.lit (.int .i64 b2), [])) Try.underlying23 (by kernel_rfl) cells23 ⟨1, by simp [DataW.trod, Try.underlying3, wa2]⟩ ⟨1, by simp [DataW.trod, Try.underlying3, wb2]⟩
  refine (walk a0 b0 a1 b1 a2 b2 W).mono fun e W' ⟨he, bel⟩ => ?_
  subst he
  exact ⟨_, rfl, _, _, _, [], [], [], hW', trodAll_mk1 (shut_bool Try.underlying4 _), trodAll_mk3 (structReads0 _ _) (structReads1 _ _) (structReads2 _ _), rfl, bel.frame _, fun h => by cases h⟩

theorem holds : Rows.RatioSumsSaid :=
  OpenClaim.holds_of_wide 8 Try.f8 rfl rfl rfl rfl rfl rfl rfl ⟨rfl, rfl, rfl, rfl, rfl⟩ rfl rfl rfl rfl rfl (by kernel_rfl) Try.func8 (by kernel_rfl)
    (of_decide_eq_true (by kernel_rfl)) (by unfold Func.isWrapper; first | (rw [if_pos (by decide +kernel)]; kernel_rfl) | (rw [if_neg (by decide +kernel)]; exact ⟨rfl, rfl⟩))
    (fun os started H enc _ => lifted os started H enc)

end Go.Proofs.Ytihicidfpfkknaa.Sums
namespace Go.Proofs.Ytihicidfpfkknaa
theorem ratioSums_holds : Rows.RatioSumsSaid := Sums.holds
#print axioms ratioSums_holds
end Go.Proofs.Ytihicidfpfkknaa
