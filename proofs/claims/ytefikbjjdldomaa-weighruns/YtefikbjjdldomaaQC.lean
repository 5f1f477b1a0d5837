/-
  Plain arithmetic: greatest common divisors of whole numbers as the ratio calls use them. No Go in sight. Contracts of the leaves: what each small function of package ratio, and of the document's answer, returns. Contracts: Check and its twin in the document's answer. Contracts: the document's Guess, whatever is handed in; and what it says of a search's input. Contracts: the document's Ratio and Weight. Contracts: the document's SameWay and SameFound of what is the same.
-/
import Derived.KernelRfl
import Derived.Test.YtefikbjjdldomaaRows
import Derived.WalkKit
import Derived.Deep.QuietTactic
import Derived.BigQuiet
import Derived.WalkSmall
import Derived.Deep.RegionHeld3
import Derived.Deep.DrawnRows
import Derived.Test.YtefikbjjdldomaaED
import Derived.Test.YtefikbjjdldomaaFL
import Derived.Test.YtefikbjjdldomaaIE
namespace Go.Proofs.Ytefikbjjdldomaa.Pl

/-- The greatest common divisor, as a whole number. -/
def gc (a b : Int) : Int := (Int.gcd a b : Int)

theorem gc_zero (a : Int) (h : 0 ≤ a) : gc a 0 = a := by
  unfold gc; rw [Int.gcd_zero_right]; omega

theorem gc_step (a b : Int) : gc b (a % b) = gc a b := by
  unfold gc
  congr 1
  rw [Int.emod_def, Int.gcd_sub_mul_left_right, Int.gcd_comm]

theorem gc_neg (a b : Int) : gc (-a) b = gc a b := by
  unfold gc; rw [Int.neg_gcd]

theorem gc_pos (a b : Int) (hb : 0 < b) : 0 < gc a b := by
  unfold gc
  have : 0 < Int.gcd a b := Int.gcd_pos_of_ne_zero_right a (by omega)
  omega

theorem gc_le (a b : Int) (hb : 0 < b) : gc a b ≤ b := by
  unfold gc
  exact Int.gcd_le_right a hb

theorem gc_dvd_left (a b : Int) : gc a b ∣ a := Int.gcd_dvd_left a b
theorem gc_dvd_right (a b : Int) : gc a b ∣ b := Int.gcd_dvd_right a b

theorem tdiv_left (a b : Int) : a.tdiv (gc a b) = a / gc a b := Int.tdiv_eq_ediv_of_dvd (gc_dvd_left a b)
theorem tdiv_right (a b : Int) : b.tdiv (gc a b) = b / gc a b := Int.tdiv_eq_ediv_of_dvd (gc_dvd_right a b)

/-- Numerator and denominator in lowest terms. -/
def ln (n d : Int) : Int := n / gc n d
def ld (n d : Int) : Int := d / gc n d

theorem ln_mul (n d : Int) : ln n d * gc n d = n := Int.ediv_mul_cancel (gc_dvd_left n d)
theorem ld_mul (n d : Int) : ld n d * gc n d = d := Int.ediv_mul_cancel (gc_dvd_right n d)

theorem ld_pos (n d : Int) (h : 0 < d) : 0 < ld n d := by
  have h1 := ld_mul n d
  have h2 := gc_pos n d h
  rcases Int.lt_or_le 0 (ld n d) with h3 | h3
  · exact h3
  · have := Int.mul_le_mul_of_nonneg_right h3 (Int.le_of_lt h2)
    omega

theorem ld_le (n d : Int) (h : 0 < d) : ld n d ≤ d := by
  have h1 := ld_mul n d
  have h2 := gc_pos n d h
  have h3 := ld_pos n d h
  have h4 : ld n d * 1 ≤ ld n d * gc n d := Int.mul_le_mul_of_nonneg_left (by omega) (by omega)
  omega

theorem ln_bounds (n d M : Int) (h : 0 < d) (h1 : -M ≤ n) (h2 : n ≤ M) : -M ≤ ln n d ∧ ln n d ≤ M := by
  have hm := ln_mul n d
  have hg := gc_pos n d h
  rcases Int.lt_or_le (ln n d) 0 with hn | hn
  · have h4 : ln n d * gc n d ≤ ln n d * 1 := Int.mul_le_mul_of_nonpos_left (by omega) (by omega)
    omega
  · have h4 : ln n d * 1 ≤ ln n d * gc n d := Int.mul_le_mul_of_nonneg_left (by omega) (by omega)
    omega

theorem low_coprime (n d : Int) (h : 0 < d) : gc (ln n d) (ld n d) = 1 := by
  have h2 : 0 < Int.gcd n d := Int.gcd_pos_of_ne_zero_right n (by omega)
  have := Int.gcd_ediv_gcd_ediv_gcd h2
  unfold gc ln ld gc
  rw [this]; rfl

theorem low_self (n d : Int) (h : gc n d = 1) : ln n d = n ∧ ld n d = d := by
  unfold ln ld; rw [h]; simp

theorem low_self_iff (n d : Int) (h : 0 < d) : (ln n d = n ∧ ld n d = d) ↔ gc n d = 1 := by
  constructor
  · rintro ⟨_, h2⟩
    have h1 := ld_mul n d
    rw [h2] at h1
    have h3 : d * gc n d = d * 1 := by omega
    exact Int.eq_of_mul_eq_mul_left (by omega) h3
  · exact low_self n d

theorem dvd_of_cop {b a d : Int} (h : Int.gcd b a = 1) (hd : b ∣ a * d) : b ∣ d := by
  have h1 : Int.gcd b (a * d) = b.natAbs := Int.gcd_eq_natAbs_left hd
  rw [Int.gcd_mul_right_right_of_gcd_eq_one h] at h1
  exact Int.gcd_eq_natAbs_left_iff_dvd.1 h1

/-- Two fractions in lowest terms with positive denominators that are the same number are the same parts. -/
theorem low_unique (a b c d : Int) (hb : 0 < b) (hd : 0 < d) (hab : gc a b = 1) (hcd : gc c d = 1) (h : a * d = c * b) : a = c ∧ b = d := by
  have hab' : Int.gcd a b = 1 := by unfold gc at hab; omega
  have hcd' : Int.gcd c d = 1 := by unfold gc at hcd; omega
  have h1 : b ∣ d := by
    have : b ∣ a * d := ⟨c, by rw [h, Int.mul_comm]⟩
    exact dvd_of_cop (by rw [Int.gcd_comm]; exact hab') this
  have h2 : d ∣ b := by
    have : d ∣ c * b := ⟨a, by rw [← h, Int.mul_comm]⟩
    exact dvd_of_cop (by rw [Int.gcd_comm]; exact hcd') this
  have h3 : b = d := Int.dvd_antisymm (by omega) (by omega) h1 h2
  subst h3
  exact ⟨Int.eq_of_mul_eq_mul_right (by omega) h, rfl⟩

/-- In bounds, as parts of a ratio must be. -/
def inb (n d : Int) : Bool := decide (-1000000 ≤ n ∧ n ≤ 1000000 ∧ 1 ≤ d ∧ d ≤ 1000000)
/-- Is it a ratio? -/
def isr (n d : Int) : Bool := inb n d && decide (gc n d = 1)
/-- What Check answers. -/
def chk (n d : Int) : Int := if isr n d = true then 0 else 3

theorem inb_true {n d : Int} (h : inb n d = true) : -1000000 ≤ n ∧ n ≤ 1000000 ∧ 1 ≤ d ∧ d ≤ 1000000 := of_decide_eq_true h
theorem inb_false {n d : Int} (h : inb n d = false) : n < -1000000 ∨ 1000000 < n ∨ d < 1 ∨ 1000000 < d := by
  have := of_decide_eq_false h
  omega
theorem isr_true {n d : Int} (h : isr n d = true) : (-1000000 ≤ n ∧ n ≤ 1000000 ∧ 1 ≤ d ∧ d ≤ 1000000) ∧ gc n d = 1 := by
  unfold isr at h
  rw [Bool.and_eq_true] at h
  exact ⟨inb_true h.1, of_decide_eq_true h.2⟩
theorem isr_mk {n d : Int} (h1 : -1000000 ≤ n) (h2 : n ≤ 1000000) (h3 : 1 ≤ d) (h4 : d ≤ 1000000) (h5 : gc n d = 1) : isr n d = true := by
  unfold isr inb; simp [h1, h2, h3, h4, h5]
theorem chk_ok {n d : Int} (h : isr n d = true) : chk n d = 0 := by unfold chk; rw [if_pos h]
theorem chk_no {n d : Int} (h : isr n d = false) : chk n d = 3 := by unfold chk; rw [if_neg (by simp [h])]
theorem isr_of_inb {n d : Int} (h : inb n d = false) : isr n d = false := by unfold isr; rw [h]; rfl
theorem isr_of_gc {n d : Int} (h : gc n d ≠ 1) : isr n d = false := by unfold isr; simp [h]

end Go.Proofs.Ytefikbjjdldomaa.Pl
namespace Go.Proofs.Ytefikbjjdldomaa.Ra
open Go.RowKit
open Pl

theorem ret_int {k : IntKind} {a b : Int} (h : a = b) : Ending.returned (.int k a) = .returned (.int k b) := by rw [h]

set_option maxHeartbeats 400000 in
theorem gcd_any (a b : Int) (w : World) (ha : 0 ≤ a) (ha' : a ≤ 9223372036854775807) (hb : 0 ≤ b) (hb' : b ≤ 9223372036854775807) :
    Calls Try.prog 91 #[.int .i64 a, .int .i64 b] w fun e w' => e = .returned (.int .i64 (gc a b)) ∧ ∃ n, w' = w.drewN n := by
  go_enter Try.func91, Try.ntmps91
  go_wp2
  go_loopw [0, 1] (fun x y wr => ∃ p q : Int, 0 ≤ p ∧ p ≤ 9223372036854775807 ∧ 0 ≤ q ∧ q ≤ 9223372036854775807 ∧ x = .int .i64 p ∧ y = .int .i64 q ∧ gc p q = gc a b ∧ ∃ n, wr = w.drewN n) (fun _ y _ => (intOf y).toNat)
  case atStart => exact ⟨a, b, ha, ha', hb, hb', rfl, rfl, rfl, 0, rfl⟩
  case round =>
    obtain ⟨p, q, hp, hp', hq, hq', rfl, rfl, hg, n, rfl⟩ := hrel
    have HG : Hid (gc p q = gc a b) := hg
    clear hg
    by_cases hz : q = 0
    · subst hz
      go_wp2
      go_ret
      exact ⟨ret_int (by rw [← HG.out, gc_zero p hp]), n, rfl⟩
    · have h0 : (q != 0) = true := by simp [hz]
      have h1 : (q == 0) = false := by simp [hz]
      go_wp2
      go_quiet (fail)
      go_wp2
      go_roundw
      case rel =>
        have m1 : 0 ≤ p % q := Int.emod_nonneg p (by omega)
        have m2 : p % q < q := Int.emod_lt_of_pos p (by omega)
        exact ⟨q, p % q, hq, hq', m1, by omega, rfl, rfl, by rw [gc_step, HG.out], n + nq, World.drewN_drewN _ _ _⟩
      case measure =>
        have m1 : 0 ≤ p % q := Int.emod_nonneg p (by omega)
        have m2 : p % q < q := Int.emod_lt_of_pos p (by omega)
        simp [intOf]; omega

/-- Its twin in the document's answer: by recursion. -/
theorem common_any (b : Nat) : ∀ (a : Int) (w : World), 0 ≤ a → a ≤ 9223372036854775807 → (b : Int) ≤ 9223372036854775807 →
    Calls Try.prog 69 #[.int .i64 a, .int .i64 (b : Int)] w fun e w' => e = .returned (.int .i64 (gc a b)) ∧ w' = w := by
  induction b using Nat.strongRecOn with
  | ind b ih =>
    intro a w ha ha' hb'
    by_cases hz : b = 0
    · subst hz
      go_enter Try.func69, Try.ntmps69
      go_wp2
      go_ret
      exact ⟨ret_int (by rw [show ((0 : Nat) : Int) = 0 from rfl, gc_zero a ha]), rfl⟩
    · have h1 : ((b : Int) == 0) = false := by simp; omega
      have hpos : (0 : Int) < b := by omega
      have IH : Hid _ := ih (a % b).toNat (by have := Int.emod_lt_of_pos a hpos; have := Int.emod_nonneg a (b := (b : Int)) (by omega); omega)
      clear ih
      have m1 : 0 ≤ a % b := Int.emod_nonneg a (by omega)
      have m2 : a % b < b := Int.emod_lt_of_pos a hpos
      go_enter Try.func69, Try.ntmps69
      go_wp2_with fail
      have hc : (((a % b).toNat : Nat) : Int) = a % b := by omega
      have IH2 := IH.out b w (by omega) (by omega) (by omega)
      rw [hc] at IH2
      refine IH2.mono ?_
      rintro e w' ⟨rfl, rfl⟩
      go_wp2
      go_ret
      exact ⟨ret_int (by rw [gc_step]), rfl⟩

theorem common_int (a b : Int) (w : World) (ha : 0 ≤ a) (ha' : a ≤ 9223372036854775807) (hb : 0 ≤ b) (hb' : b ≤ 9223372036854775807) :
    Calls Try.prog 69 #[.int .i64 a, .int .i64 b] w fun e w' => e = .returned (.int .i64 (gc a b)) ∧ w' = w := by
  obtain ⟨k, rfl⟩ := Int.eq_ofNat_of_zero_le hb
  exact common_any k a w ha ha' hb'

def absI (a : Int) : Int := if a < 0 then -a else a

theorem gc_absI (a b : Int) : gc (absI a) b = gc a b := by
  unfold absI; split
  · exact gc_neg a b
  · rfl

theorem size_any (a : Int) (w : World) (h1 : -9223372036854775807 ≤ a) (h2 : a ≤ 9223372036854775807) :
    Calls Try.prog 70 #[.int .i64 a] w fun e w' => e = .returned (.int .i64 (absI a)) ∧ w' = w := by
  by_cases h : a < 0
  · go_enter Try.func70, Try.ntmps70
    go_wp2
    go_ret
    exact ⟨ret_int (by unfold absI; rw [if_pos h]), rfl⟩
  · go_enter Try.func70, Try.ntmps70
    go_wp2
    go_ret
    exact ⟨ret_int (by unfold absI; rw [if_neg (by omega)]), rfl⟩

theorem ret_bool {a b : Bool} (h : a = b) : Ending.returned (.bool a) = .returned (.bool b) := by rw [h]

def prt (n : Int) : Bool := decide (-1000000 ≤ n ∧ n ≤ 1000000)

theorem part_any (n : Int) (w : World) :
    Calls Try.prog 68 #[.int .i64 n] w fun e w' => e = .returned (.bool (prt n)) ∧ w' = w := by
  by_cases h1 : -1000000 ≤ n
  · by_cases h2 : n ≤ 1000000
    · go_enter Try.func68, Try.ntmps68
      go_wp2
      go_ret
      exact ⟨ret_bool (by unfold prt; first | (rw [eq_comm, decide_eq_true_iff]; omega) | (rw [eq_comm, decide_eq_false_iff_not]; omega)), rfl⟩
    · go_enter Try.func68, Try.ntmps68
      go_wp2
      go_ret
      exact ⟨ret_bool (by unfold prt; first | (rw [eq_comm, decide_eq_true_iff]; omega) | (rw [eq_comm, decide_eq_false_iff_not]; omega)), rfl⟩
  · go_enter Try.func68, Try.ntmps68
    go_wp2
    go_ret
    exact ⟨ret_bool (by unfold prt; first | (rw [eq_comm, decide_eq_true_iff]; omega) | (rw [eq_comm, decide_eq_false_iff_not]; omega)), rfl⟩

theorem inb_any (n d : Int) (w : World) :
    Calls Try.prog 66 #[.int .i64 n, .int .i64 d] w fun e w' => e = .returned (.bool (inb n d)) ∧ w' = w := by
  by_cases h1 : -1000000 ≤ n
  · by_cases h2 : n ≤ 1000000
    · by_cases h3 : 1 ≤ d
      · by_cases h4 : d ≤ 1000000
        · go_enter Try.func66, Try.ntmps66
          go_wp2
          go_ret
          exact ⟨ret_bool (by unfold inb; first | (rw [eq_comm, decide_eq_true_iff]; omega) | (rw [eq_comm, decide_eq_false_iff_not]; omega)), rfl⟩
        · go_enter Try.func66, Try.ntmps66
          go_wp2
          go_ret
          exact ⟨ret_bool (by unfold inb; first | (rw [eq_comm, decide_eq_true_iff]; omega) | (rw [eq_comm, decide_eq_false_iff_not]; omega)), rfl⟩
      · go_enter Try.func66, Try.ntmps66
        go_wp2
        go_ret
        exact ⟨ret_bool (by unfold inb; first | (rw [eq_comm, decide_eq_true_iff]; omega) | (rw [eq_comm, decide_eq_false_iff_not]; omega)), rfl⟩
    · go_enter Try.func66, Try.ntmps66
      go_wp2
      go_ret
      exact ⟨ret_bool (by unfold inb; first | (rw [eq_comm, decide_eq_true_iff]; omega) | (rw [eq_comm, decide_eq_false_iff_not]; omega)), rfl⟩
  · go_enter Try.func66, Try.ntmps66
    go_wp2
    go_ret
    exact ⟨ret_bool (by unfold inb; first | (rw [eq_comm, decide_eq_true_iff]; omega) | (rw [eq_comm, decide_eq_false_iff_not]; omega)), rfl⟩


/-- Behind a call that made memory: all old cells and marks read as before. -/
theorem bcell {W w1 : World} (hb : Below W.heap.size W w1) : (∀ b o, b < W.heap.size → w1.cell? ⟨b, o, none⟩ = W.cell? ⟨b, o, none⟩) ∧ (∀ b o, b < W.heap.size → w1.frozen? ⟨b, o, none⟩ = W.frozen? ⟨b, o, none⟩) :=
  ⟨fun b o h => hb.cell (p := ⟨b, o, none⟩) h, fun b o h => hb.frozen (p := ⟨b, o, none⟩) h⟩

theorem gc_max (a b : Int) : gc (max a (-a)) b = gc a b := by
  rcases Int.le_total a (-a) with h | h
  · rw [Int.max_eq_right h, gc_neg]
  · rw [Int.max_eq_left h]



set_option maxHeartbeats 400000 in
theorem lowest_any (n d : Int) (w : World) (hn : -9223372036854775807 ≤ n) (hn' : n ≤ 9223372036854775807) (hd : 1 ≤ d) (hd' : d ≤ 9223372036854775807) :
    Calls Try.prog 67 #[.int .i64 n, .int .i64 d] w fun e w' => e = .returned (.agg #[.int .i64 (ln n d), .int .i64 (ld n d)]) ∧ Below w.heap.size w w' := by
  have H1 : Hid (n.tdiv (gc n d) = ln n d) := tdiv_left n d
  have H2 : Hid (d / gc n d = ld n d) := rfl
  have H3 : Hid (gc (-n) d = gc n d) := gc_neg n d
  have H4 : Hid (n / gc n d = ln n d) := rfl
  have hp := gc_pos n d (by omega)
  have hz : (gc n d == 0) = false := by simp; omega
  by_cases h : n < 0
  · go_enter Try.func67, Try.ntmps67
    go_wp2_with fail
    refine (gcd_any (-n) d _ (by omega) (by omega) (by omega) (by omega)).mono ?_
    rintro e w' ⟨rfl, k, rfl⟩
    rw [H3.out]
    go_wp2
    go_region
    go_wp2
    rw [H1.out, H2.out]
    exact bodyPost_ret (v := .agg #[.int .i64 (ln n d), .int .i64 (ld n d)]) (by simp [results, Try.results67, go_sem]) rfl ⟨rfl, by repeat (first | exact Below.refl _ _ | refine Below.setCell ?_ (by simp) _ | refine below_drewN ?_ _ | refine Below.alloc ?_ (by simp) _ )⟩
  · go_enter Try.func67, Try.ntmps67
    go_wp2_with fail
    refine (gcd_any n d _ (by omega) (by omega) (by omega) (by omega)).mono ?_
    rintro e w' ⟨rfl, k, rfl⟩
    go_wp2
    go_region
    go_wp2
    rw [H4.out, H2.out]
    exact bodyPost_ret (v := .agg #[.int .i64 (ln n d), .int .i64 (ld n d)]) (by simp [results, Try.results67, go_sem]) rfl ⟨rfl, by repeat (first | exact Below.refl _ _ | refine Below.setCell ?_ (by simp) _ | refine below_drewN ?_ _ | refine Below.alloc ?_ (by simp) _ )⟩

end Go.Proofs.Ytefikbjjdldomaa.Ra
namespace Go.Proofs.Ytefikbjjdldomaa.Ra
open Go.RowKit
open Pl
attribute [local go_sem ↓] Go.wp_at_zero Go.wp_at_succ

theorem bthen {w x y : World} (h1 : Below w.heap.size w x) (h2 : Below x.heap.size x y) : Below w.heap.size w y := h1.trans (h2.mono h1.size)

theorem balloc {w x : World} (h1 : Below w.heap.size w x) (o : Obj) : Below w.heap.size w (x.alloc o) := h1.alloc h1.size o

/-- A cell that holds something holds it behind a call that only made memory, and behind a new block. -/
theorem kept {W w1 : World} (hb : Below W.heap.size W w1) {b o : Nat} {v : Value} (h : W.cell? ⟨b, o, none⟩ = some v) : w1.cell? ⟨b, o, none⟩ = some v := by
  rw [hb.cell (p := ⟨b, o, none⟩) (World.block_lt_of_cell? W ⟨b, o, none⟩ h)]; exact h
theorem kept_alloc {W : World} {b o : Nat} {v : Value} {x : Obj} (h : W.cell? ⟨b, o, none⟩ = some v) : (W.alloc x).cell? ⟨b, o, none⟩ = some v := by
  rw [World.cell?_alloc_lt W x ⟨b, o, none⟩ (World.block_lt_of_cell? W ⟨b, o, none⟩ h)]; exact h

theorem inb_yes (n d : Int) (w : World) (h : inb n d = true) :
    Calls Try.prog 66 #[.int .i64 n, .int .i64 d] w fun e w' => e = .returned (.bool true) ∧ w' = w := by
  have := inb_any n d w; rw [h] at this; exact this
theorem inb_no (n d : Int) (w : World) (h : inb n d = false) :
    Calls Try.prog 66 #[.int .i64 n, .int .i64 d] w fun e w' => e = .returned (.bool false) ∧ w' = w := by
  have := inb_any n d w; rw [h] at this; exact this

set_option maxHeartbeats 1000000 in
theorem check_no (n d : Int) (w : World) (hf : inb n d = false) :
    Calls Try.prog 44 #[.agg #[.int .i64 n, .int .i64 d]] w fun e w' => e = .returned (.int .i64 (chk n d)) ∧ Below w.heap.size w w' := by
  have HF : Hid (inb n d = false) := hf
  clear hf
  go_enter Try.func44, Try.ntmps44
  go_wp2_with fail
  go_quiet ((go_at_call 66; exact Calls.quiet_of_same (inb_no _ _ _ HF.out)))
  go_wp2
  go_ret
  exact ⟨ret_int (by rw [chk_no (isr_of_inb HF.out)]), by repeat (first | exact Below.refl _ _ | refine Below.setCell ?_ (by simp) _ | refine below_drewN ?_ _ | refine Below.alloc ?_ (by simp) _ )⟩

set_option maxHeartbeats 1000000 in
theorem check_yes (n d : Int) (w : World) (hf : inb n d = true) :
    Calls Try.prog 44 #[.agg #[.int .i64 n, .int .i64 d]] w fun e w' => e = .returned (.int .i64 (chk n d)) ∧ Below w.heap.size w w' := by
  have HF : Hid (inb n d = true) := hf
  obtain ⟨h1, h2, h3, h4⟩ := inb_true hf
  clear hf
  by_cases hg : gc n d = 1
  · have HC : Hid (chk n d = 0) := chk_ok (isr_mk h1 h2 h3 h4 hg)
    have e1 : (ln n d == n) = true := by simp [low_self n d hg]
    have e2 : (ld n d == d) = true := by simp [low_self n d hg]
    clear hg
    go_enter Try.func44, Try.ntmps44
    go_wp2_with fail
    go_region_held3 (fun w' => w'.cell? ⟨w.heap.size, 0, none⟩ = some (.int .i64 n) ∧ w'.cell? ⟨w.heap.size, 1, none⟩ = some (.int .i64 d)) (first | go_keep | (refine ⟨?_, ?_⟩ <;> rw [hcc _ _ (by simp)] <;> simp))
      (first
       | (go_at_call 66; refine (inb_yes _ _ _ HF.out).mono ?_; rintro e w' ⟨rfl, rfl⟩)
       | (go_at_call 67; refine (lowest_any _ _ _ (by omega) (by omega) (by omega) (by omega)).mono ?_; rintro e w' ⟨rfl, hb⟩; obtain ⟨hcc, hff⟩ := bcell hb))
    all_goals go_wp2
    go_ret
    exact ⟨ret_int HC.out.symm, by repeat (first | exact Below.refl _ _ | refine bthen ?_ hb | refine Below.setCell ?_ (by simp) _ | refine below_drewN ?_ _ | refine Below.drew ?_ | refine Below.alloc ?_ (by simp) _ )⟩
  · have HC : Hid (chk n d = 3) := chk_no (isr_of_gc hg)
    have e2 : (ld n d == d) = false := by
      simp only [beq_eq_false_iff_ne]
      intro h
      have h5 := ld_mul n d
      rw [h] at h5
      exact hg (Int.eq_of_mul_eq_mul_left (a := d) (by omega) (by omega))
    clear hg
    cases e1 : (ln n d == n)
    all_goals
      go_enter Try.func44, Try.ntmps44
      go_wp2_with fail
      go_region_held3 (fun w' => w'.cell? ⟨w.heap.size, 0, none⟩ = some (.int .i64 n) ∧ w'.cell? ⟨w.heap.size, 1, none⟩ = some (.int .i64 d)) (first | go_keep | (refine ⟨?_, ?_⟩ <;> rw [hcc _ _ (by simp)] <;> simp))
        (first
         | (go_at_call 66; refine (inb_yes _ _ _ HF.out).mono ?_; rintro e w' ⟨rfl, rfl⟩)
         | (go_at_call 67; refine (lowest_any _ _ _ (by omega) (by omega) (by omega) (by omega)).mono ?_; rintro e w' ⟨rfl, hb⟩; obtain ⟨hcc, hff⟩ := bcell hb))
      all_goals go_wp2
      go_ret
      exact ⟨ret_int HC.out.symm, by repeat (first | exact Below.refl _ _ | refine bthen ?_ hb | refine Below.setCell ?_ (by simp) _ | refine below_drewN ?_ _ | refine Below.drew ?_ | refine Below.alloc ?_ (by simp) _ )⟩

theorem check_any (n d : Int) (w : World) :
    Calls Try.prog 44 #[.agg #[.int .i64 n, .int .i64 d]] w fun e w' => e = .returned (.int .i64 (chk n d)) ∧ Below w.heap.size w w' := by
  cases h : inb n d
  · exact check_no n d w h
  · exact check_yes n d w h

end Go.Proofs.Ytefikbjjdldomaa.Ra
namespace Go.Proofs.Ytefikbjjdldomaa
open Go.RowKit
open Nm Wm Dm

theorem gs_any (n t : Int) (v u : Value) (es : List E) (h : List Int) (w : World) (hv : SlE w v es) (hu : SlI w u h) (hlen : es.length ≤ 9223372036854775807) :
    Calls Try.prog 36 #[.agg #[.int .i64 n, v], .int .i64 t, u] w fun e w' => e = .returned (.int .i64 (gus n es t h)) ∧ Below w.heap.size w w' := by
  by_cases hc : lk n es [t] = 0
  · obtain ⟨N, s, rfl, rfl, hs, hp⟩ := gs_gn hc
    exact rguess_in N s v u es h w hv hu hp hs hc
  · exact rguess_look n t v u es h w hv hu hlen hc
set_option maxRecDepth 100000 in
set_option maxHeartbeats 8000000 in
/-- The document's SearchLook, whatever is handed in. -/
theorem rslook_any (n s t : Int) (v u : Value) (es : List E) (h : List Int) (w : World) (hv : SlE w v es) (hu : SlI w u h) (hlen : es.length ≤ 9223372036854775807) :
    Calls Try.prog 12 #[.agg #[.int .i64 n, v], .int .i64 s, .int .i64 t, u] w fun e w' => e = .returned (.int .i64 (sls n es s t h)) ∧ Below w.heap.size w w' := by
  obtain ⟨a0, c0, rfl⟩ := hv.val
  obtain ⟨a1, c1, rfl⟩ := hu.val
  have HV : Hid _ := hv
  have HU : Hid _ := hu
  clear hv hu
  go_enter Try.func12, Try.ntmps12
  go_wp2_with fail
  have hz0 : (w.alloc (.cells #[.int .i64 n, .slice a0 es.length c0] 24)).heap.size = w.heap.size + 1 := by simp
  have B0 : Hid (Below w.heap.size w (w.alloc (.cells #[.int .i64 n, .slice a0 es.length c0] 24))) := balloc (Below.refl _ _) _
  have P0 : Hid _ := box2_new w (n : Int) (.slice a0 es.length c0) 24
  generalize w.alloc (.cells #[.int .i64 n, .slice a0 es.length c0] 24) = W0 at *
  have L1 : Hid _ := lit_nums W0 [s, t] #[.int .i64 s, .int .i64 t] 2 rfl rfl
  rw [hz0] at L1
  have B1 : Hid (Below w.heap.size w (W0.alloc (.cells #[.int .i64 s, .int .i64 t] 3))) := balloc B0.out _
  have P1 : Hid _ := P0.out.below (balloc (Below.refl _ _) (.cells #[.int .i64 s, .int .i64 t] 3))
  generalize W0.alloc (.cells #[.int .i64 s, .int .i64 t] 3) = W1 at *
  clear hz0 P0 B0
  refine (rlook_any n _ _ es [s, t] W1 (HV.out.below B1.out) L1.out hlen (by simp)).mono ?_
  rintro e w2 ⟨rfl, b2⟩
  have B2 : Hid (Below w.heap.size w w2) := bthen B1.out b2
  obtain ⟨p0, p1⟩ := P1.out.below b2
  clear b2 P1
  by_cases hc : lk n es [s, t] = 0
  · have HE : Hid (sls n es s t h = gus n es t h) := by unfold Hid sls; rw [if_neg (by simp [hc])]
    rw [hc]
    clear hc
    go_wp2_with fail
    refine (gs_any n t _ _ es h w2 (HV.out.below B2.out) (HU.out.below B2.out) hlen).mono ?_
    rintro e w3 ⟨rfl, b3⟩
    go_wp2_with fail
    go_ret
    exact ⟨ret_int HE.out.symm, bthen B2.out b3⟩
  · have HE : Hid (sls n es s t h = lk n es [s, t]) := by unfold Hid sls; rw [if_pos hc]
    have hz : (lk n es [s, t] != 0) = true := by simp [hc]
    clear hc
    go_wp2_with fail
    go_ret
    exact ⟨ret_int HE.out.symm, B2.out⟩
end Go.Proofs.Ytefikbjjdldomaa
namespace Go.Proofs.Ytefikbjjdldomaa
open Go.RowKit
open Nm Pl

/-- Its twin in the document's answer: by recursion. -/
theorem common_any (b : Nat) : ∀ (a : Int) (w : World), 0 ≤ a → a ≤ 9223372036854775807 → (b : Int) ≤ 9223372036854775807 →
    Calls Try.prog 69 #[.int .i64 a, .int .i64 (b : Int)] w fun e w' => e = .returned (.int .i64 (gc a b)) ∧ w' = w := by
  induction b using Nat.strongRecOn with
  | ind b ih =>
    intro a w ha ha' hb'
    by_cases hz : b = 0
    · subst hz
      go_enter Try.func69, Try.ntmps69
      go_wp2
      go_ret
      exact ⟨ret_int (by rw [show ((0 : Nat) : Int) = 0 from rfl, gc_zero a ha]), rfl⟩
    · have h1 : ((b : Int) == 0) = false := by simp; omega
      have hpos : (0 : Int) < b := by omega
      have IH : Hid _ := ih (a % b).toNat (by have := Int.emod_lt_of_pos a hpos; have := Int.emod_nonneg a (b := (b : Int)) (by omega); omega)
      clear ih
      have m1 : 0 ≤ a % b := Int.emod_nonneg a (by omega)
      have m2 : a % b < b := Int.emod_lt_of_pos a hpos
      go_enter Try.func69, Try.ntmps69
      go_wp2_with fail
      have hc : (((a % b).toNat : Nat) : Int) = a % b := by omega
      have IH2 := IH.out b w (by omega) (by omega) (by omega)
      rw [hc] at IH2
      refine IH2.mono ?_
      rintro e w' ⟨rfl, rfl⟩
      go_wp2
      go_ret
      exact ⟨ret_int (by rw [gc_step]), rfl⟩

theorem common_int (a b : Int) (w : World) (ha : 0 ≤ a) (ha' : a ≤ 9223372036854775807) (hb : 0 ≤ b) (hb' : b ≤ 9223372036854775807) :
    Calls Try.prog 69 #[.int .i64 a, .int .i64 b] w fun e w' => e = .returned (.int .i64 (gc a b)) ∧ w' = w := by
  obtain ⟨k, rfl⟩ := Int.eq_ofNat_of_zero_le hb
  exact common_any k a w ha ha' hb'

def absI (a : Int) : Int := if a < 0 then -a else a

theorem gc_absI (a b : Int) : gc (absI a) b = gc a b := by
  unfold absI; split
  · exact gc_neg a b
  · rfl

theorem size_any (a : Int) (w : World) (h1 : -9223372036854775807 ≤ a) (h2 : a ≤ 9223372036854775807) :
    Calls Try.prog 70 #[.int .i64 a] w fun e w' => e = .returned (.int .i64 (absI a)) ∧ w' = w := by
  by_cases h : a < 0
  · go_enter Try.func70, Try.ntmps70
    go_wp2
    go_ret
    exact ⟨ret_int (by unfold absI; rw [if_pos h]), rfl⟩
  · go_enter Try.func70, Try.ntmps70
    go_wp2
    go_ret
    exact ⟨ret_int (by unfold absI; rw [if_neg (by omega)]), rfl⟩


def prt (n : Int) : Bool := decide (-1000000 ≤ n ∧ n ≤ 1000000)

theorem part_any (n : Int) (w : World) :
    Calls Try.prog 68 #[.int .i64 n] w fun e w' => e = .returned (.bool (prt n)) ∧ w' = w := by
  by_cases h1 : -1000000 ≤ n
  · by_cases h2 : n ≤ 1000000
    · go_enter Try.func68, Try.ntmps68
      go_wp2
      go_ret
      exact ⟨ret_bool (by unfold prt; first | (rw [eq_comm, decide_eq_true_iff]; omega) | (rw [eq_comm, decide_eq_false_iff_not]; omega)), rfl⟩
    · go_enter Try.func68, Try.ntmps68
      go_wp2
      go_ret
      exact ⟨ret_bool (by unfold prt; first | (rw [eq_comm, decide_eq_true_iff]; omega) | (rw [eq_comm, decide_eq_false_iff_not]; omega)), rfl⟩
  · go_enter Try.func68, Try.ntmps68
    go_wp2
    go_ret
    exact ⟨ret_bool (by unfold prt; first | (rw [eq_comm, decide_eq_true_iff]; omega) | (rw [eq_comm, decide_eq_false_iff_not]; omega)), rfl⟩
theorem part_yes (n : Int) (w : World) (h : prt n = true) :
    Calls Try.prog 68 #[.int .i64 n] w fun e w' => e = .returned (.bool true) ∧ w' = w := by
  have := part_any n w; rw [h] at this; exact this
theorem part_no (n : Int) (w : World) (h : prt n = false) :
    Calls Try.prog 68 #[.int .i64 n] w fun e w' => e = .returned (.bool false) ∧ w' = w := by
  have := part_any n w; rw [h] at this; exact this
theorem prt_true {n : Int} (h : prt n = true) : -1000000 ≤ n ∧ n ≤ 1000000 := of_decide_eq_true h
theorem prt_false {n : Int} (h : prt n = false) : ¬ (-1000000 ≤ n ∧ n ≤ 1000000) := of_decide_eq_false h
theorem inb_not {n d : Int} (h : ¬ (-1000000 ≤ n ∧ n ≤ 1000000 ∧ 1 ≤ d ∧ d ≤ 1000000)) : inb n d = false := decide_eq_false h

set_option maxHeartbeats 1000000 in
theorem ref_any (n d : Int) (w : World) :
    Calls Try.prog 45 #[.agg #[.int .i64 n, .int .i64 d]] w fun e w' => e = .returned (.int .i64 (chk n d)) ∧ Below w.heap.size w w' := by
  by_cases h1 : d < 1
  · have HC : Hid (chk n d = 3) := chk_no (isr_of_inb (inb_not (by omega)))
    go_enter Try.func45, Try.ntmps45
    go_wp2_with fail
    go_quiet (fail)
    go_wp2
    go_ret
    exact ⟨ret_int HC.out.symm, by repeat (first | exact Below.refl _ _ | refine Below.setCell ?_ (by simp) _ | refine below_drewN ?_ _ | refine Below.alloc ?_ (by simp) _ )⟩
  · have h1' : decide (d < 1) = false := by simpa using h1
    cases hd : prt d
    · have HC : Hid (chk n d = 3) := chk_no (isr_of_inb (inb_not (by have := prt_false hd; omega)))
      have HD : Hid (prt d = false) := hd
      clear hd
      go_enter Try.func45, Try.ntmps45
      go_wp2_with fail
      go_quiet ((go_at_call 68; exact Calls.quiet_of_same (part_no _ _ HD.out)))
      go_wp2
      go_ret
      exact ⟨ret_int HC.out.symm, by repeat (first | exact Below.refl _ _ | refine Below.setCell ?_ (by simp) _ | refine below_drewN ?_ _ | refine Below.alloc ?_ (by simp) _ )⟩
    · have hd' := prt_true hd
      have HD : Hid (prt d = true) := hd
      clear hd
      cases hn : prt n
      · have HC : Hid (chk n d = 3) := chk_no (isr_of_inb (inb_not (by have := prt_false hn; omega)))
        have HN : Hid (prt n = false) := hn
        clear hn
        go_enter Try.func45, Try.ntmps45
        go_wp2_with fail
        go_quiet ((first | (go_at_call_of 68 (Value.int IntKind.i64 d); exact Calls.quiet_of_same (part_yes _ _ HD.out)) | (go_at_call_of 68 (Value.int IntKind.i64 n); exact Calls.quiet_of_same (part_no _ _ HN.out))))
        go_wp2
        go_ret
        exact ⟨ret_int HC.out.symm, by repeat (first | exact Below.refl _ _ | refine Below.setCell ?_ (by simp) _ | refine below_drewN ?_ _ | refine Below.alloc ?_ (by simp) _ )⟩
      · have hn' := prt_true hn
        have HN : Hid (prt n = true) := hn
        clear hn
        have ha : 0 ≤ absI n ∧ absI n ≤ 9223372036854775807 := by unfold absI; split <;> omega
        have hq : (gc (absI n) d == 1) = decide (gc n d = 1) := by rw [gc_absI]; rfl
        have HC : Hid (chk n d = if gc n d = 1 then 0 else 3) := by
          by_cases hg : gc n d = 1
          · rw [if_pos hg]; exact chk_ok (isr_mk (by omega) (by omega) (by omega) (by omega) hg)
          · rw [if_neg hg]; exact chk_no (isr_of_gc hg)
        by_cases hg : gc n d = 1
        all_goals
          simp only [hg, decide_true, decide_false] at hq
          have HC2 := HC.out
          first | rw [if_pos hg] at HC2 | rw [if_neg hg] at HC2
          have HE : Hid _ := HC2
          clear HC HC2 hg
          go_enter Try.func45, Try.ntmps45
          go_wp2_with fail
          go_quiet ((first | (go_at_call_of 68 (Value.int IntKind.i64 d); exact Calls.quiet_of_same (part_yes _ _ HD.out)) | (go_at_call_of 68 (Value.int IntKind.i64 n); exact Calls.quiet_of_same (part_yes _ _ HN.out)) | (go_at_call 70; exact Calls.quiet_of_same (size_any _ _ (by omega) (by omega))) | (go_at_call 69; exact Calls.quiet_of_same (common_int _ _ _ ha.1 ha.2 (by omega) (by omega)))))
          go_wp2
          go_ret
          exact ⟨ret_int HE.out.symm, by repeat (first | exact Below.refl _ _ | refine Below.setCell ?_ (by simp) _ | refine below_drewN ?_ _ | refine Below.alloc ?_ (by simp) _ )⟩
/-- What is wrong with a weight. -/
def wtk (n d : Int) : Int := if chk n d ≠ 0 then chk n d else if n < d then 1 else 0
set_option maxHeartbeats 4000000 in
theorem rweight_any (n d : Int) (w : World) :
    Calls Try.prog 18 #[.agg #[.int .i64 n, .int .i64 d]] w fun e w' => e = .returned (.int .i64 (wtk n d)) ∧ Below w.heap.size w w' := by
  go_enter Try.func18, Try.ntmps18
  go_wp2_with fail
  have hz : (w.alloc (.cells #[.int .i64 n, .int .i64 d] 39)).heap.size = w.heap.size + 1 := by simp
  have P0 : Hid _ := box2_new w n (.int .i64 d) 39
  have B0 : Hid (Below w.heap.size w (w.alloc (.cells #[.int .i64 n, .int .i64 d] 39))) := balloc (Below.refl _ _) _
  generalize w.alloc (.cells #[.int .i64 n, .int .i64 d] 39) = W0 at *
  refine (ref_any n d W0).mono ?_
  rintro e w1 ⟨rfl, b1⟩
  have B1 : Hid (Below w.heap.size w w1) := bthen B0.out b1
  obtain ⟨p0, p1⟩ := P0.out.below b1
  clear b1 P0 hz
  by_cases hc : chk n d = 0
  · have HC : Hid _ := hc
    rw [hc]
    clear hc
    by_cases hl : n < d
    · have HE : Hid (wtk n d = 1) := by unfold Hid wtk; rw [if_neg (by simp [HC.out]), if_pos hl]
      go_wp2_with fail
      go_ret
      exact ⟨ret_int HE.out.symm, by first | exact B1.out | exact bdrewN B1.out _ | exact Below.drew B1.out⟩
    · have HE : Hid (wtk n d = 0) := by unfold Hid wtk; rw [if_neg (by simp [HC.out]), if_neg hl]
      go_wp2_with fail
      go_ret
      exact ⟨ret_int HE.out.symm, by first | exact B1.out | exact bdrewN B1.out _ | exact Below.drew B1.out⟩
  · have HE : Hid (wtk n d = chk n d) := by unfold Hid wtk; rw [if_pos hc]
    have hz : (chk n d != 0) = true := by simp [hc]
    clear hc
    go_wp2_with fail
    go_ret
    exact ⟨ret_int HE.out.symm, B1.out⟩
end Go.Proofs.Ytefikbjjdldomaa
namespace Go.Proofs.Ytefikbjjdldomaa
open Go.RowKit
open Nm Wm Dm

set_option maxRecDepth 100000 in
set_option maxHeartbeats 8000000 in
theorem sameway_yes (c : Int) (v u : Value) (p : List Int) (w : World) (hv : SlI w v p) (hu : SlI w u p) (hlen : p.length ≤ 9223372036854775807) :
    Calls Try.prog 38 #[.agg #[v, .int .i64 c], .agg #[u, .int .i64 c]] w fun e w' => e = .returned (.bool true) ∧ Below w.heap.size w w' := by
  obtain ⟨a0, c0, rfl⟩ := hv.val
  obtain ⟨a1, c1, rfl⟩ := hu.val
  have HV : Hid _ := hv
  have HU : Hid _ := hu
  clear hv hu
  go_enter Try.func38, Try.ntmps38
  go_wp2_with fail
  have B0 : Hid (Below w.heap.size w ((w.alloc (.cells #[.slice a0 p.length c0, .int .i64 c] 27)).alloc (.cells #[.slice a1 p.length c1, .int .i64 c] 27))) := balloc (balloc (Below.refl _ _) _) _
  generalize (w.alloc (.cells #[.slice a0 p.length c0, .int .i64 c] 27)).alloc (.cells #[.slice a1 p.length c1, .int .i64 c] 27) = W0 at *
  refine (iequal_yes _ _ p W0 (HV.out.below B0.out) (HU.out.below B0.out) hlen).mono ?_
  rintro e w1 ⟨rfl, b1⟩
  go_wp2_with fail
  go_ret
  exact ⟨rfl, bthen B0.out b1⟩
set_option maxRecDepth 100000 in
set_option maxHeartbeats 8000000 in
theorem samefound_yes (c : Int) (v u x y : Value) (p o : List Int) (w : World) (hv : SlI w v p) (hu : SlI w u p) (hx : SlI w x o) (hy : SlI w y o) (hlen : p.length ≤ 9223372036854775807) (hol : o.length ≤ 9223372036854775807) :
    Calls Try.prog 14 #[.agg #[v, .int .i64 c, x], .agg #[u, .int .i64 c, y]] w fun e w' => e = .returned (.bool true) ∧ Below w.heap.size w w' := by
  obtain ⟨a0, c0, rfl⟩ := hv.val
  obtain ⟨a1, c1, rfl⟩ := hu.val
  obtain ⟨a2, c2, rfl⟩ := hx.val
  obtain ⟨a3, c3, rfl⟩ := hy.val
  have HV : Hid _ := hv
  have HU : Hid _ := hu
  have HX : Hid _ := hx
  have HY : Hid _ := hy
  clear hv hu hx hy
  go_enter Try.func14, Try.ntmps14
  go_wp2_with fail
  have C2 : Hid _ := (cell_new w #[.slice a0 p.length c0, .int .i64 c, .slice a2 o.length c2] 29 2 _ rfl)
  have C2 : Hid _ := kept (balloc (Below.refl _ _) (.cells #[.slice a1 p.length c1, .int .i64 c, .slice a3 o.length c3] 29)) C2.out
  have C3 : Hid _ := cell_new (w.alloc (.cells #[.slice a0 p.length c0, .int .i64 c, .slice a2 o.length c2] 29)) #[.slice a1 p.length c1, .int .i64 c, .slice a3 o.length c3] 29 2 _ rfl
  have hz : (w.alloc (.cells #[.slice a0 p.length c0, .int .i64 c, .slice a2 o.length c2] 29)).heap.size = w.heap.size + 1 := by simp
  rw [hz] at C3
  have B0 : Hid (Below w.heap.size w ((w.alloc (.cells #[.slice a0 p.length c0, .int .i64 c, .slice a2 o.length c2] 29)).alloc (.cells #[.slice a1 p.length c1, .int .i64 c, .slice a3 o.length c3] 29))) := balloc (balloc (Below.refl _ _) _) _
  clear hz
  generalize (w.alloc (.cells #[.slice a0 p.length c0, .int .i64 c, .slice a2 o.length c2] 29)).alloc (.cells #[.slice a1 p.length c1, .int .i64 c, .slice a3 o.length c3] 29) = W0 at *
  refine (sameway_yes c _ _ p W0 (HV.out.below B0.out) (HU.out.below B0.out) hlen).mono ?_
  rintro e w1 ⟨rfl, b1⟩
  have B1 : Hid (Below w.heap.size w w1) := bthen B0.out b1
  have c2' := kept b1 C2.out
  have c3' := kept b1 C3.out
  clear b1 C2 C3
  go_wp2_with fail
  refine (iequal_yes _ _ o w1 (HX.out.below B1.out) (HY.out.below B1.out) hol).mono ?_
  rintro e w2 ⟨rfl, b2⟩
  go_wp2_with fail
  go_ret
  exact ⟨rfl, bthen B1.out b2⟩
end Go.Proofs.Ytefikbjjdldomaa
