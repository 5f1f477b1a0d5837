/-
  Contracts: the document's Ratio and Weight.
-/
import Derived.Test.YtefikbjjdldomaaGcd
import Derived.Test.YtefikbjjdldomaaFA
namespace Go.Proofs.Ytefikbjjdldomaa
open Go.RowKit
open Nm Pl

/-- Its twin in the document's answer: by recursion. -/
theorem common_any (b : Nat) : ∀ (a : Int) (w : World), 0 ≤ a → a ≤ 9223372036854775807 → (b : Int) ≤ 9223372036854775807 →
    Calls Try.prog 69 #[.int .i64 a, .int .i64 (b : Int)] w fun e w' => e = .returned (.int .i64 (gc a b)) ∧ w' = w := by
  induction b using Nat.strongRecOn with
  | ind b ih =>
    intro a w ha ha' hb'
    by_cases hz : b = 0
    · subst hz
      go_enter Try.func69, Try.ntmps69
      go_wp2
      go_ret
      exact ⟨ret_int (by rw [show ((0 : Nat) : Int) = 0 from rfl, gc_zero a ha]), rfl⟩
    · have h1 : ((b : Int) == 0) = false := by simp; omega
      have hpos : (0 : Int) < b := by omega
      have IH : Hid _ := ih (a % b).toNat (by have := Int.emod_lt_of_pos a hpos; have := Int.emod_nonneg a (b := (b : Int)) (by omega); omega)
      clear ih
      have m1 : 0 ≤ a % b := Int.emod_nonneg a (by omega)
      have m2 : a % b < b := Int.emod_lt_of_pos a hpos
      go_enter Try.func69, Try.ntmps69
      go_wp2_with fail
      have hc : (((a % b).toNat : Nat) : Int) = a % b := by omega
      have IH2 := IH.out b w (by omega) (by omega) (by omega)
      rw [hc] at IH2
      refine IH2.mono ?_
      rintro e w' ⟨rfl, rfl⟩
      go_wp2
      go_ret
      exact ⟨ret_int (by rw [gc_step]), rfl⟩

theorem common_int (a b : Int) (w : World) (ha : 0 ≤ a) (ha' : a ≤ 9223372036854775807) (hb : 0 ≤ b) (hb' : b ≤ 9223372036854775807) :
    Calls Try.prog 69 #[.int .i64 a, .int .i64 b] w fun e w' => e = .returned (.int .i64 (gc a b)) ∧ w' = w := by
  obtain ⟨k, rfl⟩ := Int.eq_ofNat_of_zero_le hb
  exact common_any k a w ha ha' hb'

def absI (a : Int) : Int := if a < 0 then -a else a

theorem gc_absI (a b : Int) : gc (absI a) b = gc a b := by
  unfold absI; split
  · exact gc_neg a b
  · rfl

theorem size_any (a : Int) (w : World) (h1 : -9223372036854775807 ≤ a) (h2 : a ≤ 9223372036854775807) :
    Calls Try.prog 70 #[.int .i64 a] w fun e w' => e = .returned (.int .i64 (absI a)) ∧ w' = w := by
  by_cases h : a < 0
  · go_enter Try.func70, Try.ntmps70
    go_wp2
    go_ret
    exact ⟨ret_int (by unfold absI; rw [if_pos h]), rfl⟩
  · go_enter Try.func70, Try.ntmps70
    go_wp2
    go_ret
    exact ⟨ret_int (by unfold absI; rw [if_neg (by omega)]), rfl⟩


def prt (n : Int) : Bool := decide (-1000000 ≤ n ∧ n ≤ 1000000)

theorem part_any (n : Int) (w : World) :
    Calls Try.prog 68 #[.int .i64 n] w fun e w' => e = .returned (.bool (prt n)) ∧ w' = w := by
  by_cases h1 : -1000000 ≤ n
  · by_cases h2 : n ≤ 1000000
    · go_enter Try.func68, Try.ntmps68
      go_wp2
      go_ret
      exact ⟨ret_bool (by unfold prt; first | (rw [eq_comm, decide_eq_true_iff]; omega) | (rw [eq_comm, decide_eq_false_iff_not]; omega)), rfl⟩
    · go_enter Try.func68, Try.ntmps68
      go_wp2
      go_ret
      exact ⟨ret_bool (by unfold prt; first | (rw [eq_comm, decide_eq_true_iff]; omega) | (rw [eq_comm, decide_eq_false_iff_not]; omega)), rfl⟩
  · go_enter Try.func68, Try.ntmps68
    go_wp2
    go_ret
    exact ⟨ret_bool (by unfold prt; first | (rw [eq_comm, decide_eq_true_iff]; omega) | (rw [eq_comm, decide_eq_false_iff_not]; omega)), rfl⟩
theorem part_yes (n : Int) (w : World) (h : prt n = true) :
    Calls Try.prog 68 #[.int .i64 n] w fun e w' => e = .returned (.bool true) ∧ w' = w := by
  have := part_any n w; rw [h] at this; exact this
theorem part_no (n : Int) (w : World) (h : prt n = false) :
    Calls Try.prog 68 #[.int .i64 n] w fun e w' => e = .returned (.bool false) ∧ w' = w := by
  have := part_any n w; rw [h] at this; exact this
theorem prt_true {n : Int} (h : prt n = true) : -1000000 ≤ n ∧ n ≤ 1000000 := of_decide_eq_true h
theorem prt_false {n : Int} (h : prt n = false) : ¬ (-1000000 ≤ n ∧ n ≤ 1000000) := of_decide_eq_false h
theorem inb_not {n d : Int} (h : ¬ (-1000000 ≤ n ∧ n ≤ 1000000 ∧ 1 ≤ d ∧ d ≤ 1000000)) : inb n d = false := decide_eq_false h

set_option maxHeartbeats 1000000 in
theorem ref_any (n d : Int) (w : World) :
    Calls Try.prog 45 #[.agg #[.int .i64 n, .int .i64 d]] w fun e w' => e = .returned (.int .i64 (chk n d)) ∧ Below w.heap.size w w' := by
  by_cases h1 : d < 1
  · have HC : Hid (chk n d = 3) := chk_no (isr_of_inb (inb_not (by omega)))
    go_enter Try.func45, Try.ntmps45
    go_wp2_with fail
    go_quiet (fail)
    go_wp2
    go_ret
    exact ⟨ret_int HC.out.symm, by repeat (first | exact Below.refl _ _ | refine Below.setCell ?_ (by simp) _ | refine below_drewN ?_ _ | refine Below.alloc ?_ (by simp) _ )⟩
  · have h1' : decide (d < 1) = false := by simpa using h1
    cases hd : prt d
    · have HC : Hid (chk n d = 3) := chk_no (isr_of_inb (inb_not (by have := prt_false hd; omega)))
      have HD : Hid (prt d = false) := hd
      clear hd
      go_enter Try.func45, Try.ntmps45
      go_wp2_with fail
      go_quiet ((go_at_call 68; exact Calls.quiet_of_same (part_no _ _ HD.out)))
      go_wp2
      go_ret
      exact ⟨ret_int HC.out.symm, by repeat (first | exact Below.refl _ _ | refine Below.setCell ?_ (by simp) _ | refine below_drewN ?_ _ | refine Below.alloc ?_ (by simp) _ )⟩
    · have hd' := prt_true hd
      have HD : Hid (prt d = true) := hd
      clear hd
      cases hn : prt n
      · have HC : Hid (chk n d = 3) := chk_no (isr_of_inb (inb_not (by have := prt_false hn; omega)))
        have HN : Hid (prt n = false) := hn
        clear hn
        go_enter Try.func45, Try.ntmps45
        go_wp2_with fail
        go_quiet ((first | (go_at_call_of 68 (Value.int IntKind.i64 d); exact Calls.quiet_of_same (part_yes _ _ HD.out)) | (go_at_call_of 68 (Value.int IntKind.i64 n); exact Calls.quiet_of_same (part_no _ _ HN.out))))
        go_wp2
        go_ret
        exact ⟨ret_int HC.out.symm, by repeat (first | exact Below.refl _ _ | refine Below.setCell ?_ (by simp) _ | refine below_drewN ?_ _ | refine Below.alloc ?_ (by simp) _ )⟩
      · have hn' := prt_true hn
        have HN : Hid (prt n = true) := hn
        clear hn
        have ha : 0 ≤ absI n ∧ absI n ≤ 9223372036854775807 := by unfold absI; split <;> omega
        have hq : (gc (absI n) d == 1) = decide (gc n d = 1) := by rw [gc_absI]; rfl
        have HC : Hid (chk n d = if gc n d = 1 then 0 else 3) := by
          by_cases hg : gc n d = 1
          · rw [if_pos hg]; exact chk_ok (isr_mk (by omega) (by omega) (by omega) (by omega) hg)
          · rw [if_neg hg]; exact chk_no (isr_of_gc hg)
        by_cases hg : gc n d = 1
        all_goals
          simp only [hg, decide_true, decide_false] at hq
          have HC2 := HC.out
          first | rw [if_pos hg] at HC2 | rw [if_neg hg] at HC2
          have HE : Hid _ := HC2
          clear HC HC2 hg
          go_enter Try.func45, Try.ntmps45
          go_wp2_with fail
          go_quiet ((first | (go_at_call_of 68 (Value.int IntKind.i64 d); exact Calls.quiet_of_same (part_yes _ _ HD.out)) | (go_at_call_of 68 (Value.int IntKind.i64 n); exact Calls.quiet_of_same (part_yes _ _ HN.out)) | (go_at_call 70; exact Calls.quiet_of_same (size_any _ _ (by omega) (by omega))) | (go_at_call 69; exact Calls.quiet_of_same (common_int _ _ _ ha.1 ha.2 (by omega) (by omega)))))
          go_wp2
          go_ret
          exact ⟨ret_int HE.out.symm, by repeat (first | exact Below.refl _ _ | refine Below.setCell ?_ (by simp) _ | refine below_drewN ?_ _ | refine Below.alloc ?_ (by simp) _ )⟩
/-- What is wrong with a weight. -/
def wtk (n d : Int) : Int := if chk n d ≠ 0 then chk n d else if n < d then 1 else 0
set_option maxHeartbeats 4000000 in
theorem rweight_any (n d : Int) (w : World) :
    Calls Try.prog 18 #[.agg #[.int .i64 n, .int .i64 d]] w fun e w' => e = .returned (.int .i64 (wtk n d)) ∧ Below w.heap.size w w' := by
  go_enter Try.func18, Try.ntmps18
  go_wp2_with fail
  have hz : (w.alloc (.cells #[.int .i64 n, .int .i64 d] 39)).heap.size = w.heap.size + 1 := by simp
  have P0 : Hid _ := box2_new w n (.int .i64 d) 39
  have B0 : Hid (Below w.heap.size w (w.alloc (.cells #[.int .i64 n, .int .i64 d] 39))) := balloc (Below.refl _ _) _
  generalize w.alloc (.cells #[.int .i64 n, .int .i64 d] 39) = W0 at *
  refine (ref_any n d W0).mono ?_
  rintro e w1 ⟨rfl, b1⟩
  have B1 : Hid (Below w.heap.size w w1) := bthen B0.out b1
  obtain ⟨p0, p1⟩ := P0.out.below b1
  clear b1 P0 hz
  by_cases hc : chk n d = 0
  · have HC : Hid _ := hc
    rw [hc]
    clear hc
    by_cases hl : n < d
    · have HE : Hid (wtk n d = 1) := by unfold Hid wtk; rw [if_neg (by simp [HC.out]), if_pos hl]
      go_wp2_with fail
      go_ret
      exact ⟨ret_int HE.out.symm, by first | exact B1.out | exact bdrewN B1.out _ | exact Below.drew B1.out⟩
    · have HE : Hid (wtk n d = 0) := by unfold Hid wtk; rw [if_neg (by simp [HC.out]), if_neg hl]
      go_wp2_with fail
      go_ret
      exact ⟨ret_int HE.out.symm, by first | exact B1.out | exact bdrewN B1.out _ | exact Below.drew B1.out⟩
  · have HE : Hid (wtk n d = chk n d) := by unfold Hid wtk; rw [if_pos hc]
    have hz : (chk n d != 0) = true := by simp [hc]
    clear hc
    go_wp2_with fail
    go_ret
    exact ⟨ret_int HE.out.symm, B1.out⟩
end Go.Proofs.Ytefikbjjdldomaa
