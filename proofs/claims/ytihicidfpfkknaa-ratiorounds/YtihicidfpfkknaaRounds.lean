/-
  Proved: for every ratio r, the law felllaw.RatioRounds returns true and leaves its argument as it reads. No condition.
-/
import Derived.Test.YtihicidfpfkknaaWalkD
import Derived.ProofKit
import Derived.OpenShut
import Derived.Lib.SmallJoins
namespace Go.Proofs.Ytihicidfpfkknaa.Rounds
open Go.ChangeShapes Go.WideShapes Go.ChangeAt Go.RowKit Go.Joins
open Pl

theorem floor_facts (n d : Int) (hd : 1 ≤ d) : n / d * d ≤ n ∧ n < (n / d + 1) * d := by
  have h1 := Int.mul_ediv_add_emod n d
  have h2 := Int.emod_nonneg n (b := d) (by omega)
  have h3 := Int.emod_lt_of_pos n (b := d) (by omega)
  rw [Int.mul_comm] at h1
  rw [Int.add_mul]
  omega

theorem q_le (q d B : Int) (hd : 1 ≤ d) (hB : 0 ≤ B) (h : q * d ≤ B) : q ≤ B := by
  rcases Int.lt_or_le 0 q with h0 | h0
  · have := Int.mul_le_mul_of_nonneg_left (a := 1) (b := d) (c := q) hd (by omega)
    omega
  · omega
theorem q_ge (q d B : Int) (hd : 1 ≤ d) (hB : 0 ≤ B) (h : -B ≤ q * d) : -B ≤ q := by
  have := q_le (-q) d B hd hB (by rw [Int.neg_mul]; omega)
  omega

theorem floor_ex (n d : Int) (hi : isr n d = true) : ∃ a : Int, flo n d = a ∧ a * d ≤ n ∧ n < (a + 1) * d ∧ (a + 1) * d ≤ 2000000 ∧ -1000000 ≤ (a + 1) * d ∧ a * d ≤ 1000000 ∧ -2000000 ≤ a * d ∧ -2000000 ≤ a ∧ a ≤ 2000000 := by
  obtain ⟨⟨h1, h2, h3, h4⟩, _⟩ := isr_true hi
  obtain ⟨f1, f2⟩ := floor_facts n d h3
  have e : (n / d + 1) * d = n / d * d + d := by rw [Int.add_mul]; omega
  refine ⟨n / d, by unfold flo; rw [if_pos hi], f1, f2, by omega, by omega, by omega, by omega, ?_, ?_⟩
  · have := q_ge (n / d) d 2000000 h3 (by omega) (by omega); omega
  · have := q_le (n / d) d 1000000 h3 (by omega) (by omega); omega

theorem ceil_ex (n d : Int) (hi : isr n d = true) : ∃ a : Int, cei n d = a ∧ n ≤ a * d ∧ (a - 1) * d < n ∧ (a - 1) * d ≤ 1000000 ∧ -2000000 ≤ (a - 1) * d ∧ a * d ≤ 2000000 ∧ -1000000 ≤ a * d ∧ -2000000 ≤ a ∧ a ≤ 2000000 := by
  obtain ⟨⟨h1, h2, h3, h4⟩, _⟩ := isr_true hi
  obtain ⟨f1, f2⟩ := floor_facts (-n) d h3
  have e : ((-n) / d + 1) * d = (-n) / d * d + d := by rw [Int.add_mul]; omega
  have e2 : (-((-n) / d)) * d = -((-n) / d * d) := by rw [Int.neg_mul]
  have e3 : (-((-n) / d) - 1) * d = -((-n) / d * d) - d := by rw [Int.sub_mul, Int.neg_mul]; omega
  refine ⟨-((-n) / d), by unfold cei; rw [if_pos hi], by omega, by omega, by omega, by omega, by omega, by omega, ?_, ?_⟩
  · have := q_ge (-((-n) / d)) d 1000000 h3 (by omega) (by omega); omega
  · have := q_le (-((-n) / d)) d 2000000 h3 (by omega) (by omega); omega

set_option maxHeartbeats 2000000 in
theorem walk (n d : Int) (w : World) :
    Calls Try.prog 5 #[.agg #[.int .i64 n, .int .i64 d]] w fun e w' => e = .returned (.bool true) ∧ Below w.heap.size w w' := by
  cases hi : isr n d
  · have e1 : flo n d = 0 := by unfold flo; simp [hi]
    have e2 : cei n d = 0 := by unfold cei; simp [hi]
    have hk' : (chk n d != 0) = true := by rw [chk_no hi]; rfl
    clear hi
    have H1 := floor_any n d
    have H2 := ceil_any n d
    rw [e1] at H1
    rw [e2] at H2
    have H3 : Hid _ := H1
    have H4 : Hid _ := H2
    clear H1 H2 e1 e2
    go_enter Try.func5, Try.ntmps5
    go_wp2_with fail
    refine (H3.out _).mono ?_
    rintro e w1 ⟨rfl, hb1⟩
    have r0 : w1.cell? ⟨w.heap.size, 0, none⟩ = some (.int .i64 n) := kept hb1 (by simp)
    have r1 : w1.cell? ⟨w.heap.size, 1, none⟩ = some (.int .i64 d) := kept hb1 (by simp)
    go_wp2_with fail
    refine (H4.out _).mono ?_
    rintro e w2 ⟨rfl, hb2⟩
    have r2 : w2.cell? ⟨w.heap.size, 0, none⟩ = some (.int .i64 n) := kept hb2 r0
    have r3 : w2.cell? ⟨w.heap.size, 1, none⟩ = some (.int .i64 d) := kept hb2 r1
    go_wp2_with fail
    refine (ref_any n d _).mono ?_
    rintro e w3 ⟨rfl, hb3⟩
    go_wp2
    go_ret
    exact ⟨rfl, by repeat (first | exact Below.refl _ _ | refine bthen ?_ hb3 | refine bthen ?_ hb2 | refine bthen ?_ hb1 | refine balloc ?_ _ )⟩
  · obtain ⟨a, ea, a1, a2, a3, a4, a5, a6, a7, a8⟩ := floor_ex n d hi
    obtain ⟨c, ec, c1, c2, c3, c4, c5, c6, c7, c8⟩ := ceil_ex n d hi
    have H1 := floor_any n d
    have H2 := ceil_any n d
    have H0 := ref_any n d
    rw [ea, chk_ok hi] at H1
    rw [ec, chk_ok hi] at H2
    rw [chk_ok hi] at H0
    have H3 : Hid _ := H1
    have H4 : Hid _ := H2
    have H5 : Hid _ := H0
    obtain ⟨⟨h1, h2, h3, h4⟩, _⟩ := isr_true hi
    clear H1 H2 H0 ea ec hi
    go_enter Try.func5, Try.ntmps5
    go_wp2_with fail
    refine (H3.out _).mono ?_
    rintro e w1 ⟨rfl, hb1⟩
    have r0 : w1.cell? ⟨w.heap.size, 0, none⟩ = some (.int .i64 n) := kept hb1 (by simp)
    have r1 : w1.cell? ⟨w.heap.size, 1, none⟩ = some (.int .i64 d) := kept hb1 (by simp)
    go_wp2_with fail
    refine (H4.out _).mono ?_
    rintro e w2 ⟨rfl, hb2⟩
    have r2 : w2.cell? ⟨w.heap.size, 0, none⟩ = some (.int .i64 n) := kept hb2 r0
    have r3 : w2.cell? ⟨w.heap.size, 1, none⟩ = some (.int .i64 d) := kept hb2 r1
    go_wp2_with fail
    refine (H5.out _).mono ?_
    rintro e w3 ⟨rfl, hb3⟩
    have r4 : w3.cell? ⟨w.heap.size, 0, none⟩ = some (.int .i64 n) := kept hb3 r2
    have r5 : w3.cell? ⟨w.heap.size, 1, none⟩ = some (.int .i64 d) := kept hb3 r3
    go_wp2
    go_ret
    exact ⟨rfl, by repeat (first | exact Below.refl _ _ | refine bthen ?_ hb3 | refine bthen ?_ hb2 | refine bthen ?_ hb1 | refine balloc ?_ _ )⟩

/-! ### THE ROW's STEP -/
theorem own : ownKnob Try.prog.godebug = none := by kernel_rfl
theorem cells23 : Try.prog.cellsOf 23 = 2 := by kernel_rfl

set_option maxRecDepth 100000 in
theorem lifted (os : Os) (started : os.Started) (H : Type) (enc : TypeId × Value → H) :
    ReturnsInHanded {} Try.checked os 5 .any (Rows.ratioRoundsSpec.pre6 enc Try.prog Try.f5 Rows.ratioRoundsRow.domain false) (Rows.ratioRoundsSpec.post enc Try.prog Try.f5 false true false false) := by
  refine returnsInHanded_of_change (C := Try.checked) own started (by kernel_rfl) Try.func5
    (ChangeSpec.witness6 (enc := enc) (C := Try.checked) false ⟨#[], #[.agg #[.int .i64 0, .int .i64 0]], []⟩ 8 (by kernel_rfl) (by kernel_rfl) (by kernel_rfl) (by kernel_rfl)) ?_
  intro W base args ds gs before hval0 hW _ _
  have hval : ∀ (j : Nat) t v, Try.f5.params[j]? = some t → args[j]? = some v → Value.okWide Try.prog W .any base t v := hval0
  have hW' := hW
  obtain ⟨p, q, hA0, hV, rfl, _, _⟩ := hW
  have hA : DataW.TrodAll enc Try.prog W 0 (fun _ => true) true Try.f5.params.toList args.toList ds p := hA0
  rw [Try.params5] at hA hval
  obtain ⟨v0, d0, rfl, rfl, h0⟩ := trodAll_one hA
  obtain ⟨rfl, rfl⟩ := trodVars_none hV
  obtain ⟨c0, c1, y0, y1, m, rfl, rfl, rfl, hy0, hy1⟩ := open_agg2 Try.underlying23 (by kernel_rfl) cells23 (hval 0 23 v0 rfl rfl) h0
  obtain ⟨a, e0, rfl, wa⟩ := DataW.trod_int Try.underlying3 hy0
  obtain ⟨b, e1, rfl, wb⟩ := DataW.trod_int Try.underlying3 hy1
  simp at e0 e1
  subst e0 e1
  clear hA0 hval0
  simp only [List.append_nil] at hW'
  have structReads : ∀ (W' : World) (sp : Nat → Bool), DataW.Trod enc Try.prog W' 0 sp true 23 (.agg #[.int .i64 a, .int .i64 b]) (.agg [.lit (.int .i64 a), .lit (.int .i64 b)]) [] := fun W' sp =>
    shut_agg2 (y0 := (.lit (.int .i64 a), [])) (y1 := (.lit (.int .i64 b), [])) Try.underlying23 (by kernel_rfl) cells23 ⟨1, by simp [DataW.trod, Try.underlying3, wa]⟩ ⟨1, by simp [DataW.trod, Try.underlying3, wb]⟩
  refine (walk a b W).mono fun e W' ⟨he, bel⟩ => ?_
  subst he
  exact ⟨_, rfl, _, _, _, [], [], [], hW', trodAll_mk1 (shut_bool Try.underlying4 _), trodAll_mk1 (structReads _ _), rfl, bel.frame _, fun h => by cases h⟩

theorem holds : Rows.RatioRoundsSaid :=
  OpenClaim.holds_of_wide 5 Try.f5 rfl rfl rfl rfl rfl rfl rfl ⟨rfl, rfl, rfl, rfl, rfl⟩ rfl rfl rfl rfl rfl (by kernel_rfl) Try.func5 (by kernel_rfl)
    (of_decide_eq_true (by kernel_rfl)) (by unfold Func.isWrapper; first | (rw [if_pos (by decide +kernel)]; kernel_rfl) | (rw [if_neg (by decide +kernel)]; exact ⟨rfl, rfl⟩))
    (fun os started H enc _ => lifted os started H enc)

end Go.Proofs.Ytihicidfpfkknaa.Rounds
namespace Go.Proofs.Ytihicidfpfkknaa
theorem ratioRounds_holds : Rows.RatioRoundsSaid := Rounds.holds
#print axioms ratioRounds_holds
end Go.Proofs.Ytihicidfpfkknaa
