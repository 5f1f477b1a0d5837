/-
  Contracts: Check and its twin in the document's answer.
-/
import Derived.Test.YtefikbjjdldomaaWalkA
import Derived.Deep.RegionHeld3
import Derived.Deep.DrawnRows
namespace Go.Proofs.Ytefikbjjdldomaa.Ra
open Go.RowKit
open Pl
attribute [local go_sem ↓] Go.wp_at_zero Go.wp_at_succ

theorem bthen {w x y : World} (h1 : Below w.heap.size w x) (h2 : Below x.heap.size x y) : Below w.heap.size w y := h1.trans (h2.mono h1.size)

theorem balloc {w x : World} (h1 : Below w.heap.size w x) (o : Obj) : Below w.heap.size w (x.alloc o) := h1.alloc h1.size o

/-- A cell that holds something holds it behind a call that only made memory, and behind a new block. -/
theorem kept {W w1 : World} (hb : Below W.heap.size W w1) {b o : Nat} {v : Value} (h : W.cell? ⟨b, o, none⟩ = some v) : w1.cell? ⟨b, o, none⟩ = some v := by
  rw [hb.cell (p := ⟨b, o, none⟩) (World.block_lt_of_cell? W ⟨b, o, none⟩ h)]; exact h
theorem kept_alloc {W : World} {b o : Nat} {v : Value} {x : Obj} (h : W.cell? ⟨b, o, none⟩ = some v) : (W.alloc x).cell? ⟨b, o, none⟩ = some v := by
  rw [World.cell?_alloc_lt W x ⟨b, o, none⟩ (World.block_lt_of_cell? W ⟨b, o, none⟩ h)]; exact h

theorem inb_yes (n d : Int) (w : World) (h : inb n d = true) :
    Calls Try.prog 66 #[.int .i64 n, .int .i64 d] w fun e w' => e = .returned (.bool true) ∧ w' = w := by
  have := inb_any n d w; rw [h] at this; exact this
theorem inb_no (n d : Int) (w : World) (h : inb n d = false) :
    Calls Try.prog 66 #[.int .i64 n, .int .i64 d] w fun e w' => e = .returned (.bool false) ∧ w' = w := by
  have := inb_any n d w; rw [h] at this; exact this

set_option maxHeartbeats 1000000 in
theorem check_no (n d : Int) (w : World) (hf : inb n d = false) :
    Calls Try.prog 44 #[.agg #[.int .i64 n, .int .i64 d]] w fun e w' => e = .returned (.int .i64 (chk n d)) ∧ Below w.heap.size w w' := by
  have HF : Hid (inb n d = false) := hf
  clear hf
  go_enter Try.func44, Try.ntmps44
  go_wp2_with fail
  go_quiet ((go_at_call 66; exact Calls.quiet_of_same (inb_no _ _ _ HF.out)))
  go_wp2
  go_ret
  exact ⟨ret_int (by rw [chk_no (isr_of_inb HF.out)]), by repeat (first | exact Below.refl _ _ | refine Below.setCell ?_ (by simp) _ | refine below_drewN ?_ _ | refine Below.alloc ?_ (by simp) _ )⟩

set_option maxHeartbeats 1000000 in
theorem check_yes (n d : Int) (w : World) (hf : inb n d = true) :
    Calls Try.prog 44 #[.agg #[.int .i64 n, .int .i64 d]] w fun e w' => e = .returned (.int .i64 (chk n d)) ∧ Below w.heap.size w w' := by
  have HF : Hid (inb n d = true) := hf
  obtain ⟨h1, h2, h3, h4⟩ := inb_true hf
  clear hf
  by_cases hg : gc n d = 1
  · have HC : Hid (chk n d = 0) := chk_ok (isr_mk h1 h2 h3 h4 hg)
    have e1 : (ln n d == n) = true := by simp [low_self n d hg]
    have e2 : (ld n d == d) = true := by simp [low_self n d hg]
    clear hg
    go_enter Try.func44, Try.ntmps44
    go_wp2_with fail
    go_region_held3 (fun w' => w'.cell? ⟨w.heap.size, 0, none⟩ = some (.int .i64 n) ∧ w'.cell? ⟨w.heap.size, 1, none⟩ = some (.int .i64 d)) (first | go_keep | (refine ⟨?_, ?_⟩ <;> rw [hcc _ _ (by simp)] <;> simp))
      (first
       | (go_at_call 66; refine (inb_yes _ _ _ HF.out).mono ?_; rintro e w' ⟨rfl, rfl⟩)
       | (go_at_call 67; refine (lowest_any _ _ _ (by omega) (by omega) (by omega) (by omega)).mono ?_; rintro e w' ⟨rfl, hb⟩; obtain ⟨hcc, hff⟩ := bcell hb))
    all_goals go_wp2
    go_ret
    exact ⟨ret_int HC.out.symm, by repeat (first | exact Below.refl _ _ | refine bthen ?_ hb | refine Below.setCell ?_ (by simp) _ | refine below_drewN ?_ _ | refine Below.drew ?_ | refine Below.alloc ?_ (by simp) _ )⟩
  · have HC : Hid (chk n d = 3) := chk_no (isr_of_gc hg)
    have e2 : (ld n d == d) = false := by
      simp only [beq_eq_false_iff_ne]
      intro h
      have h5 := ld_mul n d
      rw [h] at h5
      exact hg (Int.eq_of_mul_eq_mul_left (a := d) (by omega) (by omega))
    clear hg
    cases e1 : (ln n d == n)
    all_goals
      go_enter Try.func44, Try.ntmps44
      go_wp2_with fail
      go_region_held3 (fun w' => w'.cell? ⟨w.heap.size, 0, none⟩ = some (.int .i64 n) ∧ w'.cell? ⟨w.heap.size, 1, none⟩ = some (.int .i64 d)) (first | go_keep | (refine ⟨?_, ?_⟩ <;> rw [hcc _ _ (by simp)] <;> simp))
        (first
         | (go_at_call 66; refine (inb_yes _ _ _ HF.out).mono ?_; rintro e w' ⟨rfl, rfl⟩)
         | (go_at_call 67; refine (lowest_any _ _ _ (by omega) (by omega) (by omega) (by omega)).mono ?_; rintro e w' ⟨rfl, hb⟩; obtain ⟨hcc, hff⟩ := bcell hb))
      all_goals go_wp2
      go_ret
      exact ⟨ret_int HC.out.symm, by repeat (first | exact Below.refl _ _ | refine bthen ?_ hb | refine Below.setCell ?_ (by simp) _ | refine below_drewN ?_ _ | refine Below.drew ?_ | refine Below.alloc ?_ (by simp) _ )⟩

theorem check_any (n d : Int) (w : World) :
    Calls Try.prog 44 #[.agg #[.int .i64 n, .int .i64 d]] w fun e w' => e = .returned (.int .i64 (chk n d)) ∧ Below w.heap.size w w' := by
  cases h : inb n d
  · exact check_no n d w h
  · exact check_yes n d w h

end Go.Proofs.Ytefikbjjdldomaa.Ra
