/-
  What marks tell agrees; with more marks it is no less; with the end itself as a mark it is what it costs.
-/
import Derived.Test.YtefikbjjdldomaaEM
import Derived.Test.YtefikbjjdldomaaEE
namespace Go.Proofs.Ytefikbjjdldomaa
open Go.RowKit
open Nm Wm Dm

theorem apt_same (a : Int) : apt a a = 0 := by unfold apt; split <;> (try split) <;> (try split) <;> omega
/-- Of a place and the next one: by costs from a mark. -/
theorem apt_from {A B D c : Int} (hc : 0 ≤ c) (hA1 : A ≤ 1099511627776) (hB : 0 ≤ B) (hD : 0 ≤ D) (h : A < 1099511627776 → B ≤ A + c ∧ B < 1099511627776) : apt A D ≤ c + apt B D := by
  by_cases ha : A = 1099511627776
  · have h1 : apt A D = 0 := by unfold apt; rw [if_pos ha]
    have := apt_lo hB hD
    omega
  · obtain ⟨h1, h2⟩ := h (by omega)
    unfold apt
    rw [if_neg ha, if_neg (show ¬ B = 1099511627776 by omega)]
    split
    · omega
    · split <;> split <;> omega
/-- .. and by costs to a mark. -/
theorem apt_to {P X Y c : Int} (hc : 0 ≤ c) (hP : 0 ≤ P) (hY : 0 ≤ Y) (hY1 : Y ≤ 1099511627776) (hX1 : X ≤ 1099511627776) (h : Y < 1099511627776 → X ≤ c + Y ∧ X < 1099511627776) : apt P X ≤ c + apt P Y := by
  by_cases hp : P = 1099511627776
  · have h1 : apt P X = 0 := by unfold apt; rw [if_pos hp]
    have := apt_lo hP hY
    omega
  · by_cases hy : Y = 1099511627776
    · have h1 : apt P Y = 1099511627776 := by unfold apt; rw [if_neg hp, if_pos hy]
      have := apt_hi (a := P) (b := X) hP hX1
      omega
    · obtain ⟨h1, h2⟩ := h (by omega)
      unfold apt
      rw [if_neg hp, if_neg hp, if_neg hy, if_neg (show ¬ X = 1099511627776 by omega)]
      split <;> split <;> omega
/-- What the cost of an edge does to costs from a place, and to it. -/
theorem cst_on {N m x y : Nat} {es : List E} {c : Int} (hp : Pn N es) (he : ∀ v, v < N → IsD N es v (cst N es v)) (hm : m < N) (hx : x < N) (hr : cst N es m x < far → cst N es m y ≤ cst N es m x + c) (hc : c ≤ 10000) (h : cst N es m x < far) : cst N es m y ≤ cst N es m x + c ∧ cst N es m y < far := by
  have h1 := hr h
  have h2 := (he m hm).bound hp hx h
  have hF : far = 1099511627776 := rfl
  exact ⟨h1, by omega⟩
theorem cst_to {N m x y : Nat} {es : List E} {c : Int} (hp : Pn N es) (he : ∀ v, v < N → IsD N es v (cst N es v)) (hm : m < N) (hx : x < N) (hy : y < N) (hr : cst N es x y ≤ c) (hc : c ≤ 10000) (h : cst N es y m < far) : cst N es x m ≤ c + cst N es y m ∧ cst N es x m < far := by
  have hF : far = 1099511627776 := rfl
  have h1 := (he x hx).over hp (he y hy) hy (by omega) m hm h
  have h2 := (he y hy).bound hp hm h
  exact ⟨by omega, by omega⟩
theorem grt_next {N : Nat} {es : List E} {p : List Int} {t v k : Nat} (hk : k < p.length) (hv : v < N) (ht : t < N) :
    gre (frw N es p) (trw N es p) v t (k + 1) = max (max (gre (frw N es p) (trw N es p) v t k) (apt (cst N es (p.getD k 0).toNat v) (cst N es (p.getD k 0).toNat t))) (apt (cst N es t (p.getD k 0).toNat) (cst N es v (p.getD k 0).toNat)) := by
  rw [gre, frw_at hk, trw_at hk, lst_at hv, lst_at ht, lst_at ht, lst_at hv]
/-- What the first k marks tell. -/
theorem gre_agr {N t : Nat} {es : List E} {p : List Int} (hp : Pn N es) (he : ∀ v, v < N → IsD N es v (cst N es v)) (hl : ∀ k, k < p.length → 0 ≤ p.getD k 0 ∧ (p.getD k 0).toNat < N) (ht : t < N) : ∀ k, k ≤ p.length →
    (∀ v, v < N → 0 ≤ gre (frw N es p) (trw N es p) v t k ∧ gre (frw N es p) (trw N es p) v t k ≤ 1099511627776) ∧ gre (frw N es p) (trw N es p) t t k = 0 ∧ ∀ e ∈ es, gre (frw N es p) (trw N es p) e.1.toNat t k ≤ e.2.2 + gre (frw N es p) (trw N es p) e.2.1.toNat t k := by
  intro k
  have hF : far = 1099511627776 := rfl
  induction k with
  | zero =>
    intro _
    refine ⟨fun v _ => by simp [gre], by simp [gre], fun e hm => ?_⟩
    have := hp.nat hm
    simp [gre]; omega
  | succ k ih =>
    intro hk
    obtain ⟨i1, i2, i3⟩ := ih (by omega)
    have hm := (hl k (by omega)).2
    have hkl : k < p.length := by omega
    generalize hmm : (p.getD k 0).toNat = m at hm
    refine ⟨fun v hv => ?_, ?_, fun e hee => ?_⟩
    · rw [grt_next hkl hv ht, hmm]
      have a1 := apt_lo ((he m hm).lo v hv) ((he m hm).lo t ht)
      have a2 := apt_hi (a := cst N es m v) ((he m hm).lo v hv) ((he m hm).hi t ht)
      have a3 := apt_lo ((he t ht).lo m hm) ((he v hv).lo m hm)
      have a4 := apt_hi (a := cst N es t m) ((he t ht).lo m hm) ((he v hv).hi m hm)
      have := i1 v hv
      omega
    · rw [grt_next hkl ht ht, hmm, i2, apt_same, apt_same]; rfl
    · have hn := hp.nat hee
      rw [grt_next hkl hn.1 ht, grt_next hkl hn.2.1 ht, hmm]
      have h1 := i3 e hee
      have r1 := (he m hm).rel e hee
      have r2 := (he _ hn.1).rel e hee (by rw [(he _ hn.1).s0]; omega)
      rw [(he _ hn.1).s0] at r2
      have h2 := apt_from (A := cst N es m e.1.toNat) (B := cst N es m e.2.1.toNat) (D := cst N es m t) (c := e.2.2) (by omega) ((he m hm).hi _ hn.1) ((he m hm).lo _ hn.2.1) ((he m hm).lo _ ht) (fun h => cst_on hp he hm hn.1 r1 hn.2.2.2 h)
      have h3 := apt_to (P := cst N es t m) (X := cst N es e.1.toNat m) (Y := cst N es e.2.1.toNat m) (c := e.2.2) (by omega) ((he t ht).lo _ hm) ((he _ hn.2.1).lo _ hm) ((he _ hn.2.1).hi _ hm) ((he _ hn.1).hi _ hm) (fun h => cst_to hp he hm hn.1 hn.2.1 (by omega) hn.2.2.2 h)
      omega
theorem grt_agr {N t : Nat} {es : List E} {p : List Int} (hp : Pn N es) (he : ∀ v, v < N → IsD N es v (cst N es v)) (hl : ∀ k, k < p.length → 0 ≤ p.getD k 0 ∧ (p.getD k 0).toNat < N) (ht : t < N) : Agr N t es (lst N (grt N es p t)) := by
  obtain ⟨h1, h2, h3⟩ := gre_agr hp he hl ht p.length (Nat.le_refl _)
  refine ⟨lst_length _ _, fun v hv => by rw [lst_at hv]; exact h1 v hv, by rw [lst_at ht]; exact h2, fun e hm => ?_⟩
  have hn := hp.nat hm
  rw [lst_at hn.1, lst_at hn.2.1]
  exact h3 e hm
/-- With the end itself as one more mark. -/
theorem grt_end {N t v : Nat} {es : List E} {p : List Int} (hp : Pn N es) (he : ∀ v, v < N → IsD N es v (cst N es v)) (hl : ∀ k, k < p.length → 0 ≤ p.getD k 0 ∧ (p.getD k 0).toNat < N) (ht : t < N) (hv : v < N) :
    grt N es p t v ≤ grt N es (p ++ [(t : Int)]) t v ∧ grt N es (p ++ [(t : Int)]) t v = cst N es v t := by
  have hl2 : ∀ k, k < (p ++ [(t : Int)]).length → 0 ≤ (p ++ [(t : Int)]).getD k 0 ∧ ((p ++ [(t : Int)]).getD k 0).toNat < N := by
    intro k hk
    by_cases e : k < p.length
    · have : (p ++ [(t : Int)]).getD k 0 = p.getD k 0 := by simp [List.getD_eq_getElem?_getD, List.getElem?_append_left e]
      rw [this]; exact hl k e
    · have hke : k = p.length := by simp at hk; omega
      subst hke
      have : (p ++ [(t : Int)]).getD p.length 0 = (t : Int) := by simp [List.getD_eq_getElem?_getD]
      rw [this]; exact ⟨by omega, by simpa using ht⟩
  have hlen : (p ++ [(t : Int)]).length = p.length + 1 := by simp
  have hlast : (p ++ [(t : Int)]).getD p.length 0 = (t : Int) := by simp [List.getD_eq_getElem?_getD]
  have hsame : ∀ k, k ≤ p.length → gre (frw N es (p ++ [(t : Int)])) (trw N es (p ++ [(t : Int)])) v t k = gre (frw N es p) (trw N es p) v t k := by
    intro k
    induction k with
    | zero => intro _; rfl
    | succ k ih =>
      intro hk
      have e : (p ++ [(t : Int)]).getD k 0 = p.getD k 0 := by simp [List.getD_eq_getElem?_getD, List.getElem?_append_left (show k < p.length by omega)]
      rw [grt_next (by rw [hlen]; omega) hv ht, grt_next (by omega) hv ht, ih (by omega), e]
  have hle := (grt_agr hp he hl2 ht).le hp (he v hv) hv ht
  rw [lst_at hv] at hle
  have hA : grt N es (p ++ [(t : Int)]) t v = max (max (grt N es p t v) (apt (cst N es t v) (cst N es t t))) (apt (cst N es t t) (cst N es v t)) := by
    unfold grt
    rw [hlen, grt_next (by rw [hlen]; omega) hv ht, hsame _ (Nat.le_refl _), hlast]
    simp only [Int.toNat_natCast]
  have h0 : cst N es t t = 0 := (he t ht).s0
  have hlo := (he v hv).lo t ht
  have hi := (he v hv).hi t ht
  have hF : far = 1099511627776 := rfl
  have hB : apt (cst N es t t) (cst N es v t) = cst N es v t := by
    rw [h0]; unfold apt; rw [if_neg (by omega)]
    split
    · omega
    · split <;> omega
  rw [hB] at hA
  omega
end Go.Proofs.Ytefikbjjdldomaa
