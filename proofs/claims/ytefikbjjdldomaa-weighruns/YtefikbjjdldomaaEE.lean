/-
  Guesses that agree: no more than it costs; the greatest of two.
-/
import Derived.Test.YtefikbjjdldomaaEB
import Derived.Test.YtefikbjjdldomaaTW
namespace Go.Proofs.Ytefikbjjdldomaa
open Go.RowKit
open Nm Wm Dm

/-- Guesses that agree. -/
structure Agr (n t : Nat) (es : List E) (h : List Int) : Prop where
  len : h.length = n
  lo : ∀ v, v < n → 0 ≤ h.getD v 0 ∧ h.getD v 0 ≤ 1099511627776
  t0 : h.getD t 0 = 0
  rel : ∀ e ∈ es, h.getD e.1.toNat 0 ≤ e.2.2 + h.getD e.2.1.toNat 0
theorem agr_of {n t : Nat} {es : List E} {h : List Int} (hc : lk n es [(t : Int)] = 0) (hg : gus n es t h = 0) : Agr n t es h := by
  unfold gus at hg
  rw [if_neg (by simp [hc])] at hg
  by_cases h1 : acs n h = false
  · rw [if_pos h1] at hg; cases hg
  · rw [if_neg h1] at hg
    have h1' : acs n h = true := by simpa using h1
    by_cases h2 : h.getD ((t : Int)).toNat 0 ≠ 0 ∨ es.any (dear h) = true
    · rw [if_pos h2] at hg; cases hg
    · obtain ⟨a1, a2⟩ := acs_yes h1'
      refine ⟨by omega, fun v hv => a2 v (by omega), ?_, fun e he => ?_⟩
      · have := Decidable.not_not.1 (fun h => h2 (.inl h))
        simpa using this
      · by_cases h3 : e.2.2 + h.getD e.2.1.toNat 0 < h.getD e.1.toNat 0
        · exact absurd (.inr (List.any_eq_true.2 ⟨e, he, decide_eq_true h3⟩)) h2
        · omega
theorem gus_of {n t : Nat} {es : List E} {h : List Int} (hc : lk n es [(t : Int)] = 0) (ha : Agr n t es h) : gus n es t h = 0 := by
  refine gus_yes hc (acs_good (by rw [ha.len]) (fun k hk => decide_eq_true (ha.lo k (by rw [← ha.len]; exact hk)))) (by simpa using ha.t0) (fun k hk => decide_eq_false ?_)
  have := ha.rel _ (mem_at hk)
  omega
/-- No guess is more than it costs. -/
theorem Agr.le {n t v : Nat} {es : List E} {h : List Int} {d : Nat → Int} (ha : Agr n t es h) (hp : Pn n es) (hd : IsD n es v d) (hv : v < n) (ht : t < n) : h.getD v 0 ≤ d t := by
  have hF : far = 1099511627776 := rfl
  have key : ∀ m : Nat, ∀ y, y < n → (d y).toNat ≤ m → d y < far → h.getD v 0 ≤ d y + h.getD y 0 := by
    intro m
    induction m with
    | zero =>
      intro y hy hm hf
      have h0 := hd.lo y hy
      by_cases hyv : y = v
      · subst hyv; omega
      · obtain ⟨e, he, e1, e2, e3⟩ := hd.sup y hy hyv hf
        have hn := hp.nat he
        have := hd.lo e.1.toNat hn.1
        omega
    | succ m ih =>
      intro y hy hm hf
      have h0 := hd.lo y hy
      by_cases hyv : y = v
      · subst hyv; omega
      · obtain ⟨e, he, e1, e2, e3⟩ := hd.sup y hy hyv hf
        have hn := hp.nat he
        have h1 := hd.lo e.1.toNat hn.1
        have h2 := ih e.1.toNat hn.1 (by omega) e2
        have h3 := ha.rel e he
        rw [e1] at h3
        omega
  by_cases hf : d t < far
  · have := key _ t ht (Nat.le_refl _) hf
    rw [ha.t0] at this; omega
  · have := (ha.lo v hv).2
    omega
/-- The greater of two numbers at each of the first k places. -/
def gr (a b : List Int) (k : Nat) : List Int := (List.range k).map fun v : Nat => max (a.getD v 0) (b.getD v 0)
theorem gr_length (a b : List Int) (k : Nat) : (gr a b k).length = k := by simp [gr]
theorem gr_next (a b : List Int) (k : Nat) : gr a b (k + 1) = gr a b k ++ [max (a.getD k 0) (b.getD k 0)] := by simp [gr, List.range_succ]
theorem gr_at {a b : List Int} {n v : Nat} (h : v < n) : (gr a b n).getD v 0 = max (a.getD v 0) (b.getD v 0) := by simp [gr, List.getD_eq_getElem?_getD, h]
theorem Agr.max {n t : Nat} {es : List E} {a b : List Int} (ha : Agr n t es a) (hb : Agr n t es b) (hp : Pn n es) (ht : t < n) : Agr n t es (gr a b n) := by
  refine ⟨gr_length _ _ _, fun v hv => ?_, ?_, fun e he => ?_⟩
  · rw [gr_at hv]; have := ha.lo v hv; have := hb.lo v hv; omega
  · rw [gr_at ht, ha.t0, hb.t0]; rfl
  · have hn := hp.nat he
    rw [gr_at hn.1, gr_at hn.2.1]
    have := ha.rel e he; have := hb.rel e he; omega
end Go.Proofs.Ytefikbjjdldomaa
