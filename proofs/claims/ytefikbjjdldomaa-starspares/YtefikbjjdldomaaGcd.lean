/-
  Plain arithmetic: greatest common divisors of whole numbers as the ratio calls use them. No Go in sight.
-/
import Derived.KernelRfl
namespace Go.Proofs.Ytefikbjjdldomaa.Pl

/-- The greatest common divisor, as a whole number. -/
def gc (a b : Int) : Int := (Int.gcd a b : Int)

theorem gc_zero (a : Int) (h : 0 ≤ a) : gc a 0 = a := by
  unfold gc; rw [Int.gcd_zero_right]; omega

theorem gc_step (a b : Int) : gc b (a % b) = gc a b := by
  unfold gc
  congr 1
  rw [Int.emod_def, Int.gcd_sub_mul_left_right, Int.gcd_comm]

theorem gc_neg (a b : Int) : gc (-a) b = gc a b := by
  unfold gc; rw [Int.neg_gcd]

theorem gc_pos (a b : Int) (hb : 0 < b) : 0 < gc a b := by
  unfold gc
  have : 0 < Int.gcd a b := Int.gcd_pos_of_ne_zero_right a (by omega)
  omega

theorem gc_le (a b : Int) (hb : 0 < b) : gc a b ≤ b := by
  unfold gc
  exact Int.gcd_le_right a hb

theorem gc_dvd_left (a b : Int) : gc a b ∣ a := Int.gcd_dvd_left a b
theorem gc_dvd_right (a b : Int) : gc a b ∣ b := Int.gcd_dvd_right a b

theorem tdiv_left (a b : Int) : a.tdiv (gc a b) = a / gc a b := Int.tdiv_eq_ediv_of_dvd (gc_dvd_left a b)
theorem tdiv_right (a b : Int) : b.tdiv (gc a b) = b / gc a b := Int.tdiv_eq_ediv_of_dvd (gc_dvd_right a b)

/-- Numerator and denominator in lowest terms. -/
def ln (n d : Int) : Int := n / gc n d
def ld (n d : Int) : Int := d / gc n d

theorem ln_mul (n d : Int) : ln n d * gc n d = n := Int.ediv_mul_cancel (gc_dvd_left n d)
theorem ld_mul (n d : Int) : ld n d * gc n d = d := Int.ediv_mul_cancel (gc_dvd_right n d)

theorem ld_pos (n d : Int) (h : 0 < d) : 0 < ld n d := by
  have h1 := ld_mul n d
  have h2 := gc_pos n d h
  rcases Int.lt_or_le 0 (ld n d) with h3 | h3
  · exact h3
  · have := Int.mul_le_mul_of_nonneg_right h3 (Int.le_of_lt h2)
    omega

theorem ld_le (n d : Int) (h : 0 < d) : ld n d ≤ d := by
  have h1 := ld_mul n d
  have h2 := gc_pos n d h
  have h3 := ld_pos n d h
  have h4 : ld n d * 1 ≤ ld n d * gc n d := Int.mul_le_mul_of_nonneg_left (by omega) (by omega)
  omega

theorem ln_bounds (n d M : Int) (h : 0 < d) (h1 : -M ≤ n) (h2 : n ≤ M) : -M ≤ ln n d ∧ ln n d ≤ M := by
  have hm := ln_mul n d
  have hg := gc_pos n d h
  rcases Int.lt_or_le (ln n d) 0 with hn | hn
  · have h4 : ln n d * gc n d ≤ ln n d * 1 := Int.mul_le_mul_of_nonpos_left (by omega) (by omega)
    omega
  · have h4 : ln n d * 1 ≤ ln n d * gc n d := Int.mul_le_mul_of_nonneg_left (by omega) (by omega)
    omega

theorem low_coprime (n d : Int) (h : 0 < d) : gc (ln n d) (ld n d) = 1 := by
  have h2 : 0 < Int.gcd n d := Int.gcd_pos_of_ne_zero_right n (by omega)
  have := Int.gcd_ediv_gcd_ediv_gcd h2
  unfold gc ln ld gc
  rw [this]; rfl

theorem low_self (n d : Int) (h : gc n d = 1) : ln n d = n ∧ ld n d = d := by
  unfold ln ld; rw [h]; simp

theorem low_self_iff (n d : Int) (h : 0 < d) : (ln n d = n ∧ ld n d = d) ↔ gc n d = 1 := by
  constructor
  · rintro ⟨_, h2⟩
    have h1 := ld_mul n d
    rw [h2] at h1
    have h3 : d * gc n d = d * 1 := by omega
    exact Int.eq_of_mul_eq_mul_left (by omega) h3
  · exact low_self n d

theorem dvd_of_cop {b a d : Int} (h : Int.gcd b a = 1) (hd : b ∣ a * d) : b ∣ d := by
  have h1 : Int.gcd b (a * d) = b.natAbs := Int.gcd_eq_natAbs_left hd
  rw [Int.gcd_mul_right_right_of_gcd_eq_one h] at h1
  exact Int.gcd_eq_natAbs_left_iff_dvd.1 h1

/-- Two fractions in lowest terms with positive denominators that are the same number are the same parts. -/
theorem low_unique (a b c d : Int) (hb : 0 < b) (hd : 0 < d) (hab : gc a b = 1) (hcd : gc c d = 1) (h : a * d = c * b) : a = c ∧ b = d := by
  have hab' : Int.gcd a b = 1 := by unfold gc at hab; omega
  have hcd' : Int.gcd c d = 1 := by unfold gc at hcd; omega
  have h1 : b ∣ d := by
    have : b ∣ a * d := ⟨c, by rw [h, Int.mul_comm]⟩
    exact dvd_of_cop (by rw [Int.gcd_comm]; exact hab') this
  have h2 : d ∣ b := by
    have : d ∣ c * b := ⟨a, by rw [← h, Int.mul_comm]⟩
    exact dvd_of_cop (by rw [Int.gcd_comm]; exact hcd') this
  have h3 : b = d := Int.dvd_antisymm (by omega) (by omega) h1 h2
  subst h3
  exact ⟨Int.eq_of_mul_eq_mul_right (by omega) h, rfl⟩

/-- In bounds, as parts of a ratio must be. -/
def inb (n d : Int) : Bool := decide (-1000000 ≤ n ∧ n ≤ 1000000 ∧ 1 ≤ d ∧ d ≤ 1000000)
/-- Is it a ratio? -/
def isr (n d : Int) : Bool := inb n d && decide (gc n d = 1)
/-- What Check answers. -/
def chk (n d : Int) : Int := if isr n d = true then 0 else 3

theorem inb_true {n d : Int} (h : inb n d = true) : -1000000 ≤ n ∧ n ≤ 1000000 ∧ 1 ≤ d ∧ d ≤ 1000000 := of_decide_eq_true h
theorem inb_false {n d : Int} (h : inb n d = false) : n < -1000000 ∨ 1000000 < n ∨ d < 1 ∨ 1000000 < d := by
  have := of_decide_eq_false h
  omega
theorem isr_true {n d : Int} (h : isr n d = true) : (-1000000 ≤ n ∧ n ≤ 1000000 ∧ 1 ≤ d ∧ d ≤ 1000000) ∧ gc n d = 1 := by
  unfold isr at h
  rw [Bool.and_eq_true] at h
  exact ⟨inb_true h.1, of_decide_eq_true h.2⟩
theorem isr_mk {n d : Int} (h1 : -1000000 ≤ n) (h2 : n ≤ 1000000) (h3 : 1 ≤ d) (h4 : d ≤ 1000000) (h5 : gc n d = 1) : isr n d = true := by
  unfold isr inb; simp [h1, h2, h3, h4, h5]
theorem chk_ok {n d : Int} (h : isr n d = true) : chk n d = 0 := by unfold chk; rw [if_pos h]
theorem chk_no {n d : Int} (h : isr n d = false) : chk n d = 3 := by unfold chk; rw [if_neg (by simp [h])]
theorem isr_of_inb {n d : Int} (h : inb n d = false) : isr n d = false := by unfold isr; rw [h]; rfl
theorem isr_of_gc {n d : Int} (h : gc n d ≠ 1) : isr n d = false := by unfold isr; simp [h]

end Go.Proofs.Ytefikbjjdldomaa.Pl
