/-
  Contracts: the document's answer to Check; Make and its twin; Floor and Ceil.
-/
import Derived.Test.YtihicidfpfkknaaWalkB
namespace Go.Proofs.Ytihicidfpfkknaa
open Go.RowKit
open Pl

theorem part_yes (n : Int) (w : World) (h : prt n = true) :
    Calls Try.prog 26 #[.int .i64 n] w fun e w' => e = .returned (.bool true) ∧ w' = w := by
  have := part_any n w; rw [h] at this; exact this
theorem part_no (n : Int) (w : World) (h : prt n = false) :
    Calls Try.prog 26 #[.int .i64 n] w fun e w' => e = .returned (.bool false) ∧ w' = w := by
  have := part_any n w; rw [h] at this; exact this
theorem prt_true {n : Int} (h : prt n = true) : -1000000 ≤ n ∧ n ≤ 1000000 := of_decide_eq_true h
theorem prt_false {n : Int} (h : prt n = false) : ¬ (-1000000 ≤ n ∧ n ≤ 1000000) := of_decide_eq_false h
theorem inb_not {n d : Int} (h : ¬ (-1000000 ≤ n ∧ n ≤ 1000000 ∧ 1 ≤ d ∧ d ≤ 1000000)) : inb n d = false := decide_eq_false h

set_option maxHeartbeats 1000000 in
theorem ref_any (n d : Int) (w : World) :
    Calls Try.prog 12 #[.agg #[.int .i64 n, .int .i64 d]] w fun e w' => e = .returned (.int .i64 (chk n d)) ∧ Below w.heap.size w w' := by
  by_cases h1 : d < 1
  · have HC : Hid (chk n d = 3) := chk_no (isr_of_inb (inb_not (by omega)))
    go_enter Try.func12, Try.ntmps12
    go_wp2_with fail
    go_quiet (fail)
    go_wp2
    go_ret
    exact ⟨ret_int HC.out.symm, by repeat (first | exact Below.refl _ _ | refine Below.setCell ?_ (by simp) _ | refine below_drewN ?_ _ | refine Below.alloc ?_ (by simp) _ )⟩
  · have h1' : decide (d < 1) = false := by simpa using h1
    cases hd : prt d
    · have HC : Hid (chk n d = 3) := chk_no (isr_of_inb (inb_not (by have := prt_false hd; omega)))
      have HD : Hid (prt d = false) := hd
      clear hd
      go_enter Try.func12, Try.ntmps12
      go_wp2_with fail
      go_quiet ((go_at_call 26; exact Calls.quiet_of_same (part_no _ _ HD.out)))
      go_wp2
      go_ret
      exact ⟨ret_int HC.out.symm, by repeat (first | exact Below.refl _ _ | refine Below.setCell ?_ (by simp) _ | refine below_drewN ?_ _ | refine Below.alloc ?_ (by simp) _ )⟩
    · have hd' := prt_true hd
      have HD : Hid (prt d = true) := hd
      clear hd
      cases hn : prt n
      · have HC : Hid (chk n d = 3) := chk_no (isr_of_inb (inb_not (by have := prt_false hn; omega)))
        have HN : Hid (prt n = false) := hn
        clear hn
        go_enter Try.func12, Try.ntmps12
        go_wp2_with fail
        go_quiet ((first | (go_at_call_of 26 (Value.int IntKind.i64 d); exact Calls.quiet_of_same (part_yes _ _ HD.out)) | (go_at_call_of 26 (Value.int IntKind.i64 n); exact Calls.quiet_of_same (part_no _ _ HN.out))))
        go_wp2
        go_ret
        exact ⟨ret_int HC.out.symm, by repeat (first | exact Below.refl _ _ | refine Below.setCell ?_ (by simp) _ | refine below_drewN ?_ _ | refine Below.alloc ?_ (by simp) _ )⟩
      · have hn' := prt_true hn
        have HN : Hid (prt n = true) := hn
        clear hn
        have ha : 0 ≤ absI n ∧ absI n ≤ 9223372036854775807 := by unfold absI; split <;> omega
        have hq : (gc (absI n) d == 1) = decide (gc n d = 1) := by rw [gc_absI]; rfl
        have HC : Hid (chk n d = if gc n d = 1 then 0 else 3) := by
          by_cases hg : gc n d = 1
          · rw [if_pos hg]; exact chk_ok (isr_mk (by omega) (by omega) (by omega) (by omega) hg)
          · rw [if_neg hg]; exact chk_no (isr_of_gc hg)
        by_cases hg : gc n d = 1
        all_goals
          simp only [hg, decide_true, decide_false] at hq
          have HC2 := HC.out
          first | rw [if_pos hg] at HC2 | rw [if_neg hg] at HC2
          have HE : Hid _ := HC2
          clear HC HC2 hg
          go_enter Try.func12, Try.ntmps12
          go_wp2_with fail
          go_quiet ((first | (go_at_call_of 26 (Value.int IntKind.i64 d); exact Calls.quiet_of_same (part_yes _ _ HD.out)) | (go_at_call_of 26 (Value.int IntKind.i64 n); exact Calls.quiet_of_same (part_yes _ _ HN.out)) | (go_at_call 28; exact Calls.quiet_of_same (size_any _ _ (by omega) (by omega))) | (go_at_call 27; exact Calls.quiet_of_same (common_int _ _ _ ha.1 ha.2 (by omega) (by omega)))))
          go_wp2
          go_ret
          exact ⟨ret_int HE.out.symm, by repeat (first | exact Below.refl _ _ | refine Below.setCell ?_ (by simp) _ | refine below_drewN ?_ _ | refine Below.alloc ?_ (by simp) _ )⟩

end Go.Proofs.Ytihicidfpfkknaa
