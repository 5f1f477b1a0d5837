/-
  Plain arithmetic of sums and products of fractions in lowest terms. No walk in sight.
-/
import Derived.Test.YtihicidfpfkknaaWalkF
namespace Go.Proofs.Ytihicidfpfkknaa.Sums
open Pl
set_option linter.unusedSimpArgs false

theorem gc_comm4 (a b c d : Int) : ok2 a b c d = ok2 c d a b := by unfold ok2; rw [Bool.and_comm]
theorem ad_comm (a b c d : Int) : adN a b c d = adN c d a b ∧ adD a b c d = adD c d a b ∧ adE a b c d = adE c d a b := by
  unfold adN adD adE
  rw [gc_comm4 a b c d, Int.add_comm (a * d) (c * b), Int.mul_comm b d]
  exact ⟨rfl, rfl, rfl⟩
theorem mu_comm (a b c d : Int) : muN a b c d = muN c d a b ∧ muD a b c d = muD c d a b ∧ muE a b c d = muE c d a b := by
  unfold muN muD muE
  rw [gc_comm4 a b c d, Int.mul_comm a c, Int.mul_comm b d]
  exact ⟨rfl, rfl, rfl⟩

/-- The same number: n through d is m through e. -/
def Same (n d m e : Int) : Prop := n * e = m * d

theorem same_low (n d : Int) : Same (ln n d) (ld n d) n d := by
  unfold Same
  have h1 := ln_mul n d
  have h2 := ld_mul n d
  calc ln n d * d = ln n d * (ld n d * gc n d) := by rw [h2]
    _ = (ln n d * gc n d) * ld n d := by simp only [Int.mul_assoc, Int.mul_comm, Int.mul_left_comm]
    _ = n * ld n d := by rw [h1]

theorem same_trans {n d m e p q : Int} (he : e ≠ 0) (h1 : Same n d m e) (h2 : Same m e p q) : Same n d p q := by
  unfold Same at *
  have : e * (n * q) = e * (p * d) := by
    calc e * (n * q) = (n * e) * q := by simp only [Int.mul_assoc, Int.mul_comm, Int.mul_left_comm]
      _ = (m * d) * q := by rw [h1]
      _ = (m * q) * d := by simp only [Int.mul_assoc, Int.mul_comm, Int.mul_left_comm]
      _ = (p * e) * d := by rw [h2]
      _ = e * (p * d) := by simp only [Int.mul_assoc, Int.mul_comm, Int.mul_left_comm]
  exact Int.eq_of_mul_eq_mul_left he this
theorem same_symm {n d m e : Int} (h : Same n d m e) : Same m e n d := Eq.symm h

theorem same_mul {n d m e n' d' m' e' : Int} (h1 : Same n d m e) (h2 : Same n' d' m' e') : Same (n * n') (d * d') (m * m') (e * e') := by
  unfold Same at *
  calc n * n' * (e * e') = (n * e) * (n' * e') := by simp only [Int.mul_assoc, Int.mul_comm, Int.mul_left_comm]
    _ = (m * d) * (m' * d') := by rw [h1, h2]
    _ = m * m' * (d * d') := by simp only [Int.mul_assoc, Int.mul_comm, Int.mul_left_comm]

theorem same_add {n d m e n' d' m' e' : Int} (h1 : Same n d m e) (h2 : Same n' d' m' e') : Same (n * d' + n' * d) (d * d') (m * e' + m' * e) (e * e') := by
  unfold Same at *
  rw [Int.add_mul, Int.add_mul]
  have a1 : n * d' * (e * e') = m * e' * (d * d') := by
    calc n * d' * (e * e') = (n * e) * (d' * e') := by simp only [Int.mul_assoc, Int.mul_comm, Int.mul_left_comm]
      _ = (m * d) * (d' * e') := by rw [h1]
      _ = m * e' * (d * d') := by simp only [Int.mul_assoc, Int.mul_comm, Int.mul_left_comm]
  have a2 : n' * d * (e * e') = m' * e * (d * d') := by
    calc n' * d * (e * e') = (n' * e') * (d * e) := by simp only [Int.mul_assoc, Int.mul_comm, Int.mul_left_comm]
      _ = (m' * d') * (d * e) := by rw [h2]
      _ = m' * e * (d * d') := by simp only [Int.mul_assoc, Int.mul_comm, Int.mul_left_comm]
  rw [a1, a2]

theorem same_spread (a0 a1 b0 b1 c0 c1 : Int) : Same ((a0 * b1 + b0 * a1) * c0) (a1 * b1 * c1) (a0 * c0 * (b1 * c1) + b0 * c0 * (a1 * c1)) (a1 * c1 * (b1 * c1)) := by
  unfold Same
  rw [Int.add_mul, Int.add_mul, Int.add_mul]
  simp only [Int.mul_assoc, Int.mul_comm, Int.mul_left_comm]

theorem sE_ok {n d : Int} (h : sE n d = 0) : sN n d = ln n d ∧ sD n d = ld n d ∧ inb (ln n d) (ld n d) = true := by
  unfold sE at h
  unfold sN sD
  cases hi : inb (ln n d) (ld n d)
  · simp [hi] at h
  · simp

theorem adE_ok {a b c d : Int} (h : adE a b c d = 0) : ok2 a b c d = true ∧ adN a b c d = ln (a * d + c * b) (b * d) ∧ adD a b c d = ld (a * d + c * b) (b * d) := by
  unfold adE at h
  cases hi : ok2 a b c d
  · simp [hi] at h
  · rw [hi] at h
    simp only [if_true] at h
    obtain ⟨e1, e2, _⟩ := sE_ok h
    unfold adN adD
    rw [hi]
    exact ⟨rfl, e1, e2⟩
theorem adD_ok {a b c d : Int} (h : adD a b c d ≠ 0) : ok2 a b c d = true ∧ adN a b c d = ln (a * d + c * b) (b * d) ∧ adD a b c d = ld (a * d + c * b) (b * d) := by
  cases hi : ok2 a b c d
  · exfalso; apply h; unfold adD; rw [hi]; rfl
  · unfold adD at h
    rw [hi] at h
    unfold adN adD
    rw [hi]
    simp only [if_true] at h ⊢
    unfold sD at h
    unfold sN sD
    cases hj : inb (ln (a * d + c * b) (b * d)) (ld (a * d + c * b) (b * d))
    · exfalso; apply h; rw [hj]; rfl
    · exact ⟨trivial, rfl, rfl⟩
theorem muE_ok {a b c d : Int} (h : muE a b c d = 0) : ok2 a b c d = true ∧ muN a b c d = ln (a * c) (b * d) ∧ muD a b c d = ld (a * c) (b * d) := by
  unfold muE at h
  cases hi : ok2 a b c d
  · simp [hi] at h
  · rw [hi] at h
    simp only [if_true] at h
    obtain ⟨e1, e2, _⟩ := sE_ok h
    unfold muN muD
    rw [hi]
    exact ⟨rfl, e1, e2⟩

/-- Spread over a sum a product is the sum of products. -/
theorem spread (a0 a1 b0 b1 c0 c1 pN pD aN aD bN bD : Int) (hp : adN a0 a1 b0 b1 = pN) (hp' : adD a0 a1 b0 b1 = pD)
    (ha : muN a0 a1 c0 c1 = aN) (ha' : muD a0 a1 c0 c1 = aD) (hb : muN b0 b1 c0 c1 = bN) (hb' : muD b0 b1 c0 c1 = bD)
    (h0 : pD ≠ 0) (h1 : muE a0 a1 c0 c1 = 0) (h2 : muE b0 b1 c0 c1 = 0) (h3 : muE pN pD c0 c1 = 0) (h4 : adE aN aD bN bD = 0) :
    muN pN pD c0 c1 = adN aN aD bN bD ∧ muD pN pD c0 c1 = adD aN aD bN bD := by
  obtain ⟨k0, n0, d0⟩ := adD_ok (hp' ▸ h0)
  obtain ⟨k1, n1, d1⟩ := muE_ok h1
  obtain ⟨k2, n2, d2⟩ := muE_ok h2
  obtain ⟨k3, n3, d3⟩ := muE_ok h3
  obtain ⟨k4, n4, d4⟩ := adE_ok h4
  have pos : ∀ {n d : Int}, isr n d = true → 0 < d := fun h => by have := (isr_true h).1; omega
  have pa := pos (ok2_true k0).1
  have pb := pos (ok2_true k0).2
  have pc := pos (ok2_true k1).2
  have pp := pos (ok2_true k3).1
  have pac := pos (ok2_true k4).1
  have pbc := pos (ok2_true k4).2
  have q1 : 0 < pD * c1 := Int.mul_pos pp pc
  have q2 : 0 < aD * bD := Int.mul_pos pac pbc
  have q3 : 0 < a1 * b1 := Int.mul_pos pa pb
  have q4 : 0 < a1 * c1 := Int.mul_pos pa pc
  have q5 : 0 < b1 * c1 := Int.mul_pos pb pc
  have q6 : 0 < a1 * b1 * c1 := Int.mul_pos q3 pc
  have q7 : 0 < a1 * c1 * (b1 * c1) := Int.mul_pos q4 q5
  have sp : Same pN pD (a0 * b1 + b0 * a1) (a1 * b1) := by rw [← hp, ← hp', n0, d0]; exact same_low _ _
  have sa : Same aN aD (a0 * c0) (a1 * c1) := by rw [← ha, ← ha', n1, d1]; exact same_low _ _
  have sb : Same bN bD (b0 * c0) (b1 * c1) := by rw [← hb, ← hb', n2, d2]; exact same_low _ _
  have s1 : Same (pN * c0) (pD * c1) ((a0 * b1 + b0 * a1) * c0) (a1 * b1 * c1) := same_mul sp (show Same c0 c1 c0 c1 from rfl)
  have s2 : Same (aN * bD + bN * aD) (aD * bD) (a0 * c0 * (b1 * c1) + b0 * c0 * (a1 * c1)) (a1 * c1 * (b1 * c1)) := same_add sa sb
  have s3 := same_trans (by omega) s1 (same_trans (by omega) (same_spread a0 a1 b0 b1 c0 c1) (same_symm s2))
  have s4 := same_trans (by omega) (same_low (pN * c0) (pD * c1)) (same_trans (by omega) s3 (same_symm (same_low (aN * bD + bN * aD) (aD * bD))))
  rw [n3, d3, n4, d4]
  exact low_unique _ _ _ _ (ld_pos _ _ q1) (ld_pos _ _ q2) (low_coprime _ _ q1) (low_coprime _ _ q2) s4

end Go.Proofs.Ytihicidfpfkknaa.Sums
