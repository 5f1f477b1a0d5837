/-
  Proved: for every three ratios a, b and c, the law fellkeep.RatioOrders returns true and leaves its arguments as they read. No condition.
-/
import Derived.Test.YtihicidfpfkknaaWalkF
import Derived.ProofKit
import Derived.OpenShut
import Derived.Lib.SmallJoins
namespace Go.Proofs.Ytihicidfpfkknaa.Orders
open Go.ChangeShapes Go.WideShapes Go.ChangeAt Go.RowKit Go.Joins
open Pl

theorem cmp3_neg (p q : Int) : cmp3 q p = -cmp3 p q := by unfold cmp3; split <;> split <;> first | rfl | omega | (split <;> omega)
theorem cmp3_le (p q : Int) : cmp3 p q ≤ 0 ↔ p ≤ q := by unfold cmp3; split <;> first | omega | (split <;> omega)
theorem cmp3_zero (p q : Int) : cmp3 p q = 0 ↔ p = q := by unfold cmp3; split <;> first | omega | (split <;> omega)
theorem cmp3_range (p q : Int) : -1 ≤ cmp3 p q ∧ cmp3 p q ≤ 1 := by unfold cmp3; split <;> first | omega | (split <;> omega)

theorem le_trans3 (a0 a1 b0 b1 c0 c1 : Int) (ha : 1 ≤ a1) (hb : 1 ≤ b1) (hc : 1 ≤ c1) (h1 : a0 * b1 ≤ b0 * a1) (h2 : b0 * c1 ≤ c0 * b1) : a0 * c1 ≤ c0 * a1 := by
  have k1 := Int.mul_le_mul_of_nonneg_right h1 (show 0 ≤ c1 by omega)
  have k2 := Int.mul_le_mul_of_nonneg_right h2 (show 0 ≤ a1 by omega)
  have e1 : b0 * a1 * c1 = b0 * c1 * a1 := by rw [Int.mul_assoc, Int.mul_comm a1 c1, ← Int.mul_assoc]
  have e2 : a0 * b1 * c1 = a0 * c1 * b1 := by rw [Int.mul_assoc, Int.mul_comm b1 c1, ← Int.mul_assoc]
  have e3 : c0 * b1 * a1 = c0 * a1 * b1 := by rw [Int.mul_assoc, Int.mul_comm b1 a1, ← Int.mul_assoc]
  exact Int.le_of_mul_le_mul_right (show a0 * c1 * b1 ≤ c0 * a1 * b1 by omega) (by omega)

theorem ok2_mk {a b c d : Int} (h1 : isr a b = true) (h2 : isr c d = true) : ok2 a b c d = true := by unfold ok2; simp [h1, h2]

/-- The order, in numbers. -/
theorem order (a0 a1 b0 b1 c0 c1 : Int) (h1 : ok2 a0 a1 b0 b1 = true) (h2 : ok2 b0 b1 c0 c1 = true) :
    ∃ x z v : Int, cV a0 a1 b0 b1 = x ∧ cV b0 b1 a0 a1 = -x ∧ cV b0 b1 c0 c1 = z ∧ cV a0 a1 c0 c1 = v ∧ (x = 0 ↔ a0 = b0 ∧ a1 = b1) ∧ (x ≤ 0 → z ≤ 0 → v ≤ 0) ∧ -1 ≤ x ∧ x ≤ 1 := by
  obtain ⟨i1, i2⟩ := ok2_true h1
  obtain ⟨_, i3⟩ := ok2_true h2
  obtain ⟨⟨_, _, pa, _⟩, ga⟩ := isr_true i1
  obtain ⟨⟨_, _, pb, _⟩, gb⟩ := isr_true i2
  obtain ⟨⟨_, _, pc, _⟩, _⟩ := isr_true i3
  have e1 : cV a0 a1 b0 b1 = cmp3 (a0 * b1) (b0 * a1) := by unfold cV; rw [if_pos h1]
  have e2 : cV b0 b1 a0 a1 = cmp3 (b0 * a1) (a0 * b1) := by unfold cV; rw [if_pos (ok2_mk i2 i1)]
  have e3 : cV b0 b1 c0 c1 = cmp3 (b0 * c1) (c0 * b1) := by unfold cV; rw [if_pos h2]
  have e4 : cV a0 a1 c0 c1 = cmp3 (a0 * c1) (c0 * a1) := by unfold cV; rw [if_pos (ok2_mk i1 i3)]
  refine ⟨_, _, _, e1, by rw [e2, cmp3_neg], e3, e4, ?_, ?_, (cmp3_range _ _).1, (cmp3_range _ _).2⟩
  · rw [cmp3_zero]
    constructor
    · intro h
      exact low_unique a0 a1 b0 b1 (by omega) (by omega) ga gb h
    · rintro ⟨rfl, rfl⟩; rfl
  · rw [cmp3_le, cmp3_le, cmp3_le]
    exact le_trans3 a0 a1 b0 b1 c0 c1 pa pb pc

theorem third (w : World) : Calls Try.prog 13 #[.agg #[.int .i64 1, .int .i64 3], .agg #[.int .i64 1, .int .i64 2]] w fun e w' => e = .returned (.tuple #[.int .i64 (-1), .int .i64 0]) ∧ Below w.heap.size w w' := by
  have h := cmp_any 1 3 1 2 w
  rw [show cV 1 3 1 2 = -1 from by decide, show chk2 1 3 1 2 = 0 from by decide] at h
  exact h

set_option maxHeartbeats 2000000 in
theorem walk (a0 a1 b0 b1 c0 c1 : Int) (w : World) :
    Calls Try.prog 7 #[.agg #[.int .i64 a0, .int .i64 a1], .agg #[.int .i64 b0, .int .i64 b1], .agg #[.int .i64 c0, .int .i64 c1]] w fun e w' => e = .returned (.bool true) ∧ Below w.heap.size w w' := by
  have K1 := cmp_any a0 a1 b0 b1
  have K2 := cmp_any b0 b1 a0 a1
  have K3 := cmp_any b0 b1 c0 c1
  have K4 := cmp_any a0 a1 c0 c1
  cases h1 : ok2 a0 a1 b0 b1
  · rw [chk2_no h1, show cV a0 a1 b0 b1 = 0 from by unfold cV; simp [h1]] at K1
    have L1 : Hid _ := K1
    have L2 : Hid _ := K2
    have L3 : Hid _ := K3
    have L4 : Hid _ := K4
    clear K1 K2 K3 K4 h1
    go_enter Try.func7, Try.ntmps7
    go_wp2_with fail
    refine (third _).mono ?_
    rintro e w1 ⟨rfl, hb1⟩
    have r1a0 : w1.cell? ⟨w.heap.size, 0, none⟩ = some (.int .i64 a0) := kept hb1 (by go_simp)
    have r1a1 : w1.cell? ⟨w.heap.size, 1, none⟩ = some (.int .i64 a1) := kept hb1 (by go_simp)
    have r1b0 : w1.cell? ⟨w.heap.size + 1, 0, none⟩ = some (.int .i64 b0) := kept hb1 (by go_simp)
    have r1b1 : w1.cell? ⟨w.heap.size + 1, 1, none⟩ = some (.int .i64 b1) := kept hb1 (by go_simp)
    have r1c0 : w1.cell? ⟨w.heap.size + 1 + 1, 0, none⟩ = some (.int .i64 c0) := kept hb1 (by go_simp)
    have r1c1 : w1.cell? ⟨w.heap.size + 1 + 1, 1, none⟩ = some (.int .i64 c1) := kept hb1 (by go_simp)
    go_wp2_with fail
    refine (L1.out _).mono ?_
    rintro e w2 ⟨rfl, hb2⟩
    have r2a0 := kept hb2 r1a0
    have r2a1 := kept hb2 r1a1
    have r2b0 := kept hb2 r1b0
    have r2b1 := kept hb2 r1b1
    have r2c0 := kept hb2 r1c0
    have r2c1 := kept hb2 r1c1
    clear r1a0 r1a1 r1b0 r1b1 r1c0 r1c1
    go_wp2_with fail
    refine (L2.out _).mono ?_
    rintro e w3 ⟨rfl, hb3⟩
    have r3a0 := kept hb3 r2a0
    have r3a1 := kept hb3 r2a1
    have r3b0 := kept hb3 r2b0
    have r3b1 := kept hb3 r2b1
    have r3c0 := kept hb3 r2c0
    have r3c1 := kept hb3 r2c1
    clear r2a0 r2a1 r2b0 r2b1 r2c0 r2c1
    go_wp2_with fail
    refine (L3.out _).mono ?_
    rintro e w4 ⟨rfl, hb4⟩
    have r4a0 := kept hb4 r3a0
    have r4a1 := kept hb4 r3a1
    have r4b0 := kept hb4 r3b0
    have r4b1 := kept hb4 r3b1
    have r4c0 := kept hb4 r3c0
    have r4c1 := kept hb4 r3c1
    clear r3a0 r3a1 r3b0 r3b1 r3c0 r3c1
    go_wp2_with fail
    refine (L4.out _).mono ?_
    rintro e w5 ⟨rfl, hb5⟩
    have r5a0 := kept hb5 r4a0
    have r5a1 := kept hb5 r4a1
    have r5b0 := kept hb5 r4b0
    have r5b1 := kept hb5 r4b1
    have r5c0 := kept hb5 r4c0
    have r5c1 := kept hb5 r4c1
    clear r4a0 r4a1 r4b0 r4b1 r4c0 r4c1
    go_wp2
    go_ret
    exact ⟨rfl, by repeat (first | exact Below.refl _ _ | refine bthen ?_ hb5 | refine bthen ?_ hb4 | refine bthen ?_ hb3 | refine bthen ?_ hb2 | refine bthen ?_ hb1 | refine balloc ?_ _ )⟩
  cases h2 : ok2 b0 b1 c0 c1
  · rw [chk2_ok h1] at K1
    rw [chk2_no h2] at K3
    have L1 : Hid _ := K1
    have L2 : Hid _ := K2
    have L3 : Hid _ := K3
    have L4 : Hid _ := K4
    clear K1 K2 K3 K4 h1 h2
    go_enter Try.func7, Try.ntmps7
    go_wp2_with fail
    refine (third _).mono ?_
    rintro e w1 ⟨rfl, hb1⟩
    have r1a0 : w1.cell? ⟨w.heap.size, 0, none⟩ = some (.int .i64 a0) := kept hb1 (by go_simp)
    have r1a1 : w1.cell? ⟨w.heap.size, 1, none⟩ = some (.int .i64 a1) := kept hb1 (by go_simp)
    have r1b0 : w1.cell? ⟨w.heap.size + 1, 0, none⟩ = some (.int .i64 b0) := kept hb1 (by go_simp)
    have r1b1 : w1.cell? ⟨w.heap.size + 1, 1, none⟩ = some (.int .i64 b1) := kept hb1 (by go_simp)
    have r1c0 : w1.cell? ⟨w.heap.size + 1 + 1, 0, none⟩ = some (.int .i64 c0) := kept hb1 (by go_simp)
    have r1c1 : w1.cell? ⟨w.heap.size + 1 + 1, 1, none⟩ = some (.int .i64 c1) := kept hb1 (by go_simp)
    go_wp2_with fail
    refine (L1.out _).mono ?_
    rintro e w2 ⟨rfl, hb2⟩
    have r2a0 := kept hb2 r1a0
    have r2a1 := kept hb2 r1a1
    have r2b0 := kept hb2 r1b0
    have r2b1 := kept hb2 r1b1
    have r2c0 := kept hb2 r1c0
    have r2c1 := kept hb2 r1c1
    clear r1a0 r1a1 r1b0 r1b1 r1c0 r1c1
    go_wp2_with fail
    refine (L2.out _).mono ?_
    rintro e w3 ⟨rfl, hb3⟩
    have r3a0 := kept hb3 r2a0
    have r3a1 := kept hb3 r2a1
    have r3b0 := kept hb3 r2b0
    have r3b1 := kept hb3 r2b1
    have r3c0 := kept hb3 r2c0
    have r3c1 := kept hb3 r2c1
    clear r2a0 r2a1 r2b0 r2b1 r2c0 r2c1
    go_wp2_with fail
    refine (L3.out _).mono ?_
    rintro e w4 ⟨rfl, hb4⟩
    have r4a0 := kept hb4 r3a0
    have r4a1 := kept hb4 r3a1
    have r4b0 := kept hb4 r3b0
    have r4b1 := kept hb4 r3b1
    have r4c0 := kept hb4 r3c0
    have r4c1 := kept hb4 r3c1
    clear r3a0 r3a1 r3b0 r3b1 r3c0 r3c1
    go_wp2_with fail
    refine (L4.out _).mono ?_
    rintro e w5 ⟨rfl, hb5⟩
    have r5a0 := kept hb5 r4a0
    have r5a1 := kept hb5 r4a1
    have r5b0 := kept hb5 r4b0
    have r5b1 := kept hb5 r4b1
    have r5c0 := kept hb5 r4c0
    have r5c1 := kept hb5 r4c1
    clear r4a0 r4a1 r4b0 r4b1 r4c0 r4c1
    go_wp2
    go_ret
    exact ⟨rfl, by repeat (first | exact Below.refl _ _ | refine bthen ?_ hb5 | refine bthen ?_ hb4 | refine bthen ?_ hb3 | refine bthen ?_ hb2 | refine bthen ?_ hb1 | refine balloc ?_ _ )⟩
  · obtain ⟨i1, i2⟩ := ok2_true h1
    obtain ⟨_, i3⟩ := ok2_true h2
    obtain ⟨x, z, v, e1, e2, e3, e4, f1, f2, f3, f4⟩ := order a0 a1 b0 b1 c0 c1 h1 h2
    rw [chk2_ok h1, e1] at K1
    rw [chk2_ok (ok2_mk i2 i1), e2] at K2
    rw [chk2_ok h2, e3] at K3
    rw [chk2_ok (ok2_mk i1 i3), e4] at K4
    have L1 : Hid _ := K1
    have L2 : Hid _ := K2
    have L3 : Hid _ := K3
    have L4 : Hid _ := K4
    have F1 : Hid _ := f1
    clear K1 K2 K3 K4 h1 h2 i1 i2 i3 e1 e2 e3 e4 f1
    go_enter Try.func7, Try.ntmps7
    go_wp2_with fail
    refine (third _).mono ?_
    rintro e w1 ⟨rfl, hb1⟩
    have r1a0 : w1.cell? ⟨w.heap.size, 0, none⟩ = some (.int .i64 a0) := kept hb1 (by go_simp)
    have r1a1 : w1.cell? ⟨w.heap.size, 1, none⟩ = some (.int .i64 a1) := kept hb1 (by go_simp)
    have r1b0 : w1.cell? ⟨w.heap.size + 1, 0, none⟩ = some (.int .i64 b0) := kept hb1 (by go_simp)
    have r1b1 : w1.cell? ⟨w.heap.size + 1, 1, none⟩ = some (.int .i64 b1) := kept hb1 (by go_simp)
    have r1c0 : w1.cell? ⟨w.heap.size + 1 + 1, 0, none⟩ = some (.int .i64 c0) := kept hb1 (by go_simp)
    have r1c1 : w1.cell? ⟨w.heap.size + 1 + 1, 1, none⟩ = some (.int .i64 c1) := kept hb1 (by go_simp)
    go_wp2_with fail
    refine (L1.out _).mono ?_
    rintro e w2 ⟨rfl, hb2⟩
    have r2a0 := kept hb2 r1a0
    have r2a1 := kept hb2 r1a1
    have r2b0 := kept hb2 r1b0
    have r2b1 := kept hb2 r1b1
    have r2c0 := kept hb2 r1c0
    have r2c1 := kept hb2 r1c1
    clear r1a0 r1a1 r1b0 r1b1 r1c0 r1c1
    go_wp2_with fail
    refine (L2.out _).mono ?_
    rintro e w3 ⟨rfl, hb3⟩
    have r3a0 := kept hb3 r2a0
    have r3a1 := kept hb3 r2a1
    have r3b0 := kept hb3 r2b0
    have r3b1 := kept hb3 r2b1
    have r3c0 := kept hb3 r2c0
    have r3c1 := kept hb3 r2c1
    clear r2a0 r2a1 r2b0 r2b1 r2c0 r2c1
    go_wp2_with fail
    refine (L3.out _).mono ?_
    rintro e w4 ⟨rfl, hb4⟩
    have r4a0 := kept hb4 r3a0
    have r4a1 := kept hb4 r3a1
    have r4b0 := kept hb4 r3b0
    have r4b1 := kept hb4 r3b1
    have r4c0 := kept hb4 r3c0
    have r4c1 := kept hb4 r3c1
    clear r3a0 r3a1 r3b0 r3b1 r3c0 r3c1
    go_wp2_with fail
    refine (L4.out _).mono ?_
    rintro e w5 ⟨rfl, hb5⟩
    have r5a0 := kept hb5 r4a0
    have r5a1 := kept hb5 r4a1
    have r5b0 := kept hb5 r4b0
    have r5b1 := kept hb5 r4b1
    have r5c0 := kept hb5 r4c0
    have r5c1 := kept hb5 r4c1
    clear r4a0 r4a1 r4b0 r4b1 r4c0 r4c1
    by_cases hx : x = 0
    · obtain ⟨rfl, rfl⟩ := F1.out.1 hx
      subst hx
      by_cases hz : 0 < z
      · go_wp2
        go_ret
        exact ⟨rfl, by repeat (first | exact Below.refl _ _ | refine bthen ?_ hb5 | refine bthen ?_ hb4 | refine bthen ?_ hb3 | refine bthen ?_ hb2 | refine bthen ?_ hb1 | refine balloc ?_ _ )⟩
      · have hv := f2 (by omega) (by omega)
        go_wp2
        go_ret
        exact ⟨rfl, by repeat (first | exact Below.refl _ _ | refine bthen ?_ hb5 | refine bthen ?_ hb4 | refine bthen ?_ hb3 | refine bthen ?_ hb2 | refine bthen ?_ hb1 | refine balloc ?_ _ )⟩
    · have x0 : (x == 0) = false := by simp [hx]
      have hne : ¬ (a0 = b0 ∧ a1 = b1) := fun h => hx (F1.out.2 h)
      cases d0 : (a0 == b0)
      all_goals
        cases d1 : (a1 == b1)
        all_goals first
          | (exact absurd ⟨by simpa using d0, by simpa using d1⟩ hne)
          | skip
      all_goals
        clear hne hx
        by_cases hp : 0 < x
      all_goals
        by_cases hz : 0 < z
      all_goals
        by_cases hv : v ≤ 0
      all_goals first
        | (exact absurd (f2 (by omega) (by omega)) hv)
        | skip
      all_goals
        clear f2
        go_wp2
        go_ret
        exact ⟨rfl, by repeat (first | exact Below.refl _ _ | refine bthen ?_ hb5 | refine bthen ?_ hb4 | refine bthen ?_ hb3 | refine bthen ?_ hb2 | refine bthen ?_ hb1 | refine balloc ?_ _ )⟩

/-! ### THE ROW's STEP -/
theorem own : ownKnob Try.prog.godebug = none := by kernel_rfl
theorem cells23 : Try.prog.cellsOf 23 = 2 := by kernel_rfl

set_option maxRecDepth 100000 in
theorem lifted (os : Os) (started : os.Started) (H : Type) (enc : TypeId × Value → H) :
    ReturnsInHanded {} Try.checked os 7 .any (Rows.ratioOrdersSpec.pre6 enc Try.prog Try.f7 Rows.ratioOrdersRow.domain false) (Rows.ratioOrdersSpec.post enc Try.prog Try.f7 false true false false) := by
  refine returnsInHanded_of_change (C := Try.checked) own started (by kernel_rfl) Try.func7
    (ChangeSpec.witness6 (enc := enc) (C := Try.checked) false ⟨#[], #[.agg #[.int .i64 0, .int .i64 0], .agg #[.int .i64 0, .int .i64 0], .agg #[.int .i64 0, .int .i64 0]], []⟩ 8 (by kernel_rfl) (by kernel_rfl) (by kernel_rfl) (by kernel_rfl)) ?_
  intro W base args ds gs before hval0 hW _ _
  have hval : ∀ (j : Nat) t v, Try.f7.params[j]? = some t → args[j]? = some v → Value.okWide Try.prog W .any base t v := hval0
  have hW' := hW
  obtain ⟨p, q, hA0, hV, rfl, _, _⟩ := hW
  have hA : DataW.TrodAll enc Try.prog W 0 (fun _ => true) true Try.f7.params.toList args.toList ds p := hA0
  rw [Try.params7] at hA hval
  obtain ⟨v0, v1, v2, d0, d1, d2, p0, p1, p2, rfl, rfl, rfl, h0, h1, h2⟩ := trodAll_three hA
  obtain ⟨rfl, rfl⟩ := trodVars_none hV
  obtain ⟨c00, c01, y00, y01, m0, rfl, rfl, rfl, hy00, hy01⟩ := open_agg2 Try.underlying23 (by kernel_rfl) cells23 (hval 0 23 v0 rfl rfl) h0
  obtain ⟨a0, e00, rfl, wa0⟩ := DataW.trod_int Try.underlying3 hy00
  obtain ⟨b0, e01, rfl, wb0⟩ := DataW.trod_int Try.underlying3 hy01
  simp at e00 e01
  subst e00 e01
  obtain ⟨c10, c11, y10, y11, m1, rfl, rfl, rfl, hy10, hy11⟩ := open_agg2 Try.underlying23 (by kernel_rfl) cells23 (hval 1 23 v1 rfl rfl) h1
  obtain ⟨a1, e10, rfl, wa1⟩ := DataW.trod_int Try.underlying3 hy10
  obtain ⟨b1, e11, rfl, wb1⟩ := DataW.trod_int Try.underlying3 hy11
  simp at e10 e11
  subst e10 e11
  obtain ⟨c20, c21, y20, y21, m2, rfl, rfl, rfl, hy20, hy21⟩ := open_agg2 Try.underlying23 (by kernel_rfl) cells23 (hval 2 23 v2 rfl rfl) h2
  obtain ⟨a2, e20, rfl, wa2⟩ := DataW.trod_int Try.underlying3 hy20
  obtain ⟨b2, e21, rfl, wb2⟩ := DataW.trod_int Try.underlying3 hy21
  simp at e20 e21
  subst e20 e21
  clear hA0 hval0
  simp only [List.append_nil] at hW'
  have structReads0 : ∀ (W' : World) (sp : Nat → Bool), DataW.Trod enc Try.prog W' 0 sp true 23 (.agg #[.int .i64 a0, .int .i64 b0]) (.agg [.lit (.int .i64 a0), .lit (.int .i64 b0)]) [] := fun W' sp =>
    shut_agg2 (y0 := (.lit (.int .i64 a0), [])) (y1 := (.lit (.int .i64 b0), [])) Try.underlying23 (by kernel_rfl) cells23 ⟨1, by simp [DataW.trod, Try.underlying3, wa0]⟩ ⟨1, by simp [DataW.trod, Try.underlying3, wb0]⟩
  have structReads1 : ∀ (W' : World) (sp : Nat → Bool), DataW.Trod enc Try.prog W' 0 sp true 23 (.agg #[.int .i64 a1, .int .i64 b1]) (.agg [.lit (.int .i64 a1), .lit (.int .i64 b1)]) [] := fun W' sp =>
    shut_agg2 (y0 := (.lit (.int .i64 a1), [])) (y1 := (.lit (.int .i64 b1), [])) Try.underlying23 (by kernel_rfl) cells23 ⟨1, by simp [DataW.trod, Try.underlying3, wa1]⟩ ⟨1, by simp [DataW.trod, Try.underlying3, wb1]⟩
  have structReads2 : ∀ (W' : World) (sp : Nat → Bool), DataW.Trod enc Try.prog W' 0 sp true 23 (.agg #[.int .i64 a2, .int .i64 b2]) (.agg [.lit (.int .i64 a2), .lit (.int .i64 b2)]) [] := fun W' sp =>
    shut_agg2 (y0 := (.lit (.int .i64 a2), [])) (y1 := (.lit (.int .i64 b2), [])) Try.underlying23 (by kernel_rfl) cells23 ⟨1, by simp [DataW.trod, Try.underlying3, wa2]⟩ ⟨1, by simp [DataW.trod, Try.underlying3, wb2]⟩
  refine (walk a0 b0 a1 b1 a2 b2 W).mono fun e W' ⟨he, bel⟩ => ?_
  subst he
  exact ⟨_, rfl, _, _, _, [], [], [], hW', trodAll_mk1 (shut_bool Try.underlying4 _), trodAll_mk3 (structReads0 _ _) (structReads1 _ _) (structReads2 _ _), rfl, bel.frame _, fun h => by cases h⟩

theorem holds : Rows.RatioOrdersSaid :=
  OpenClaim.holds_of_wide 7 Try.f7 rfl rfl rfl rfl rfl rfl rfl ⟨rfl, rfl, rfl, rfl, rfl⟩ rfl rfl rfl rfl rfl (by kernel_rfl) Try.func7 (by kernel_rfl)
    (of_decide_eq_true (by kernel_rfl)) (by unfold Func.isWrapper; first | (rw [if_pos (by decide +kernel)]; kernel_rfl) | (rw [if_neg (by decide +kernel)]; exact ⟨rfl, rfl⟩))
    (fun os started H enc _ => lifted os started H enc)

end Go.Proofs.Ytihicidfpfkknaa.Orders
namespace Go.Proofs.Ytihicidfpfkknaa
theorem ratioOrders_holds : Rows.RatioOrdersSaid := Orders.holds
#print axioms ratioOrders_holds
end Go.Proofs.Ytihicidfpfkknaa
