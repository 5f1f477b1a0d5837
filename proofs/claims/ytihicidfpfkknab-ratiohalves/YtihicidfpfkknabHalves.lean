/-
  Proved: for every ratio r, the law fellkeep.RatioHalves returns true and leaves its argument as it reads. No condition.
-/
import Derived.Test.YtihicidfpfkknabWalkD
import Derived.ProofKit
import Derived.OpenShut
import Derived.Lib.SmallJoins
namespace Go.Proofs.Ytihicidfpfkknab.Halves
open Go.ChangeShapes Go.WideShapes Go.ChangeAt Go.RowKit Go.Joins
open Pl

theorem between (n d : Int) (hi : isr n d = true) : ∃ a c : Int, flo n d = a ∧ cei n d = c ∧ ((d = 1 ∧ c = a) ∨ ((d == 1) = false ∧ c = a + 1)) ∧ -1000001 ≤ a ∧ a ≤ 1000001 := by
  obtain ⟨⟨h1, h2, h3, h4⟩, hg⟩ := isr_true hi
  refine ⟨n / d, -((-n) / d), by unfold flo; rw [if_pos hi], by unfold cei; rw [if_pos hi], ?_, ?_, ?_⟩
  · by_cases hm : n % d = 0
    · left
      have hdv : d ∣ n := Int.dvd_of_emod_eq_zero hm
      have hgd : gc n d = d := by
        unfold gc
        rw [Int.gcd_comm]
        exact Int.gcd_eq_left (by omega) hdv
      exact ⟨by omega, pos_ceil0 n d (by omega) hm⟩
    · right
      refine ⟨?_, pos_ceil n d (by omega) hm⟩
      simp only [beq_eq_false_iff_ne]
      intro h
      apply hm
      rw [h, Int.emod_one]
  · rcases Int.lt_or_le n 0 with hs | hs
    · by_cases hm : (-n) % d = 0
      · rw [neg_floor0 n d (by omega) hm]
        have := Int.ediv_le_self (a := -n) d (by omega)
        omega
      · rw [neg_floor n d (by omega) hm]
        have := Int.ediv_le_self (a := -n) d (by omega)
        omega
    · have := Int.ediv_nonneg (a := n) (b := d) (by omega) (by omega)
      omega
  · rcases Int.lt_or_le n 0 with hs | hs
    · have := Int.ediv_neg_of_neg_of_pos (a := n) (b := d) (by omega) (by omega)
      omega
    · have := Int.ediv_le_self (a := n) d (by omega)
      omega

theorem minus (w : World) : Calls Try.prog 6 #[.agg #[.int .i64 (-7), .int .i64 2]] w fun e w' => e = .returned (.tuple #[.int .i64 (-3), .int .i64 0]) ∧ Below w.heap.size w w' := by
  have h := ceil_any (-7) 2 w
  rw [show cei (-7) 2 = -3 from by decide, show chk (-7) 2 = 0 from by decide] at h
  exact h

set_option maxHeartbeats 2000000 in
theorem walk (n d : Int) (w : World) :
    Calls Try.prog 3 #[.agg #[.int .i64 n, .int .i64 d]] w fun e w' => e = .returned (.bool true) ∧ Below w.heap.size w w' := by
  have K1 := floor_any n d
  have K2 := ceil_any n d
  have K3 := make_any n d
  cases hi : isr n d
  · rw [chk_no hi, show flo n d = 0 from by unfold flo; simp [hi]] at K1
    rw [chk_no hi, show cei n d = 0 from by unfold cei; simp [hi]] at K2
    have L1 : Hid _ := K1
    have L2 : Hid _ := K2
    clear K1 K2 K3 hi
    go_enter Try.func3, Try.ntmps3
    go_wp2_with fail
    refine (minus _).mono ?_
    rintro e w1 ⟨rfl, hb1⟩
    have r0 : w1.cell? ⟨w.heap.size, 0, none⟩ = some (.int .i64 n) := kept hb1 (by go_simp)
    have r1 : w1.cell? ⟨w.heap.size, 1, none⟩ = some (.int .i64 d) := kept hb1 (by go_simp)
    go_wp2_with fail
    refine (L1.out _).mono ?_
    rintro e w2 ⟨rfl, hb2⟩
    have s0 := kept hb2 r0
    have s1 := kept hb2 r1
    go_wp2_with fail
    refine (L2.out _).mono ?_
    rintro e w3 ⟨rfl, hb3⟩
    go_wp2
    go_ret
    exact ⟨rfl, by repeat (first | exact Below.refl _ _ | refine bthen ?_ hb4 | refine bthen ?_ hb3 | refine bthen ?_ hb2 | refine bthen ?_ hb1 | refine balloc ?_ _ )⟩
  · obtain ⟨⟨h1, h2, h3, h4⟩, hg⟩ := isr_true hi
    obtain ⟨e1, e2, e3⟩ := mk_yes (n := n) (d := d) (decide_eq_true ⟨h1, h2, h3, h4⟩)
    obtain ⟨l1, l2⟩ := low_self n d hg
    rw [e1, e2, e3, l1, l2] at K3
    obtain ⟨a, c, ea, ec, hac, ba, ba'⟩ := between n d hi
    rw [chk_ok hi, ea] at K1
    rw [chk_ok hi, ec] at K2
    have L1 : Hid _ := K1
    have L2 : Hid _ := K2
    have L3 : Hid _ := K3
    clear K1 K2 K3 hi hg e1 e2 e3 l1 l2 ea ec
    have hne : (a == a + 1) = false := beq_eq_false_iff_ne.2 (by omega)
    rcases hac with ⟨rfl, rfl⟩ | ⟨hd1, rfl⟩
    all_goals
      go_enter Try.func3, Try.ntmps3
      go_wp2_with fail
      refine (minus _).mono ?_
      rintro e w1 ⟨rfl, hb1⟩
      have r0 : w1.cell? ⟨w.heap.size, 0, none⟩ = some (.int .i64 n) := kept hb1 (by go_simp)
      have r1 := kept hb1 (b := w.heap.size) (o := 1) (by go_simp; rfl)
      go_wp2_with fail
      refine (L1.out _).mono ?_
      rintro e w2 ⟨rfl, hb2⟩
      have s0 := kept hb2 r0
      have s1 := kept hb2 r1
      go_wp2_with fail
      refine (L2.out _).mono ?_
      rintro e w3 ⟨rfl, hb3⟩
      have t0 := kept hb3 s0
      have t1 := kept hb3 s1
      go_wp2_with fail
      refine (L3.out _).mono ?_
      rintro e w4 ⟨rfl, hb4⟩
      have u0 := kept hb4 t0
      have u1 := kept hb4 t1
      have v0 := fun x => kept_alloc (x := x) u0
      have v1 := fun x => kept_alloc (x := x) u1
      go_wp2
      go_ret
      exact ⟨rfl, by repeat (first | exact Below.refl _ _ | refine bthen ?_ hb4 | refine bthen ?_ hb3 | refine bthen ?_ hb2 | refine bthen ?_ hb1 | refine balloc ?_ _ )⟩

/-! ### THE ROW's STEP -/
theorem own : ownKnob Try.prog.godebug = none := by kernel_rfl
theorem cells23 : Try.prog.cellsOf 23 = 2 := by kernel_rfl

set_option maxRecDepth 100000 in
theorem lifted (os : Os) (started : os.Started) (H : Type) (enc : TypeId × Value → H) :
    ReturnsInHanded {} Try.checked os 3 .any (Rows.ratioHalvesSpec.pre6 enc Try.prog Try.f3 Rows.ratioHalvesRow.domain false) (Rows.ratioHalvesSpec.post enc Try.prog Try.f3 false true false false) := by
  refine returnsInHanded_of_change (C := Try.checked) own started (by kernel_rfl) Try.func3
    (ChangeSpec.witness6 (enc := enc) (C := Try.checked) false ⟨#[], #[.agg #[.int .i64 0, .int .i64 0]], []⟩ 8 (by kernel_rfl) (by kernel_rfl) (by kernel_rfl) (by kernel_rfl)) ?_
  intro W base args ds gs before hval0 hW _ _
  have hval : ∀ (j : Nat) t v, Try.f3.params[j]? = some t → args[j]? = some v → Value.okWide Try.prog W .any base t v := hval0
  have hW' := hW
  obtain ⟨p, q, hA0, hV, rfl, _, _⟩ := hW
  have hA : DataW.TrodAll enc Try.prog W 0 (fun _ => true) true Try.f3.params.toList args.toList ds p := hA0
  rw [Try.params3] at hA hval
  obtain ⟨v0, d0, rfl, rfl, h0⟩ := trodAll_one hA
  obtain ⟨rfl, rfl⟩ := trodVars_none hV
  obtain ⟨c00, c01, y00, y01, m0, rfl, rfl, rfl, hy00, hy01⟩ := open_agg2 Try.underlying23 (by kernel_rfl) cells23 (hval 0 23 v0 rfl rfl) h0
  obtain ⟨a0, e00, rfl, wa0⟩ := DataW.trod_int Try.underlying3 hy00
  obtain ⟨b0, e01, rfl, wb0⟩ := DataW.trod_int Try.underlying3 hy01
  simp at e00 e01
  subst e00 e01
  clear hA0 hval0
  simp only [List.append_nil] at hW'
  have structReads0 : ∀ (W' : World) (sp : Nat → Bool), DataW.Trod enc Try.prog W' 0 sp true 23 (.agg #[.int .i64 a0, .int .i64 b0]) (.agg [.lit (.int .i64 a0), .lit (.int .i64 b0)]) [] := fun W' sp =>
    shut_agg2 (y0 := (.lit (.int .i64 a0), [])) (y1 := (.lit (.int .i64 b0), [])) Try.underlying23 (by kernel_rfl) cells23 ⟨1, by simp [DataW.trod, Try.underlying3, wa0]⟩ ⟨1, by simp [DataW.trod, Try.underlying3, wb0]⟩
  refine (walk a0 b0 W).mono fun e W' ⟨he, bel⟩ => ?_
  subst he
  exact ⟨_, rfl, _, _, _, [], [], [], hW', trodAll_mk1 (shut_bool Try.underlying4 _), trodAll_mk1 (structReads0 _ _), rfl, bel.frame _, fun h => by cases h⟩

theorem holds : Rows.RatioHalvesSaid :=
  OpenClaim.holds_of_wide 3 Try.f3 rfl rfl rfl rfl rfl rfl rfl ⟨rfl, rfl, rfl, rfl, rfl⟩ rfl rfl rfl rfl rfl (by kernel_rfl) Try.func3 (by kernel_rfl)
    (of_decide_eq_true (by kernel_rfl)) (by unfold Func.isWrapper; first | (rw [if_pos (by decide +kernel)]; kernel_rfl) | (rw [if_neg (by decide +kernel)]; exact ⟨rfl, rfl⟩))
    (fun os started H enc _ => lifted os started H enc)

end Go.Proofs.Ytihicidfpfkknab.Halves
namespace Go.Proofs.Ytihicidfpfkknab
theorem ratioHalves_holds : Rows.RatioHalvesSaid := Halves.holds
#print axioms ratioHalves_holds
end Go.Proofs.Ytihicidfpfkknab
