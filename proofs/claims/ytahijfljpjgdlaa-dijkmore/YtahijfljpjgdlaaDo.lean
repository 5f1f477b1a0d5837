/-
  Plain costs: with one edge more. No Go in sight.
-/
import Derived.Test.YtahijfljpjgdlaaDm
namespace Go.Proofs.Ytahijfljpjgdlaa.Dm
open Nm Wm
set_option linter.unusedSimpArgs false

/-- Over the new edge. -/
def ovr (l t : Nat → Int) (a : Nat) (c : Int) (v : Nat) : Int := if l a < far ∧ t v < far then l a + c + t v else far
def mor (l t : Nat → Int) (a : Nat) (c : Int) (v : Nat) : Int := min (l v) (ovr l t a c v)
theorem ovr_yes {l t : Nat → Int} {a : Nat} {c : Int} {v : Nat} (h1 : l a < far) (h2 : t v < far) : ovr l t a c v = l a + c + t v := by unfold ovr; rw [if_pos ⟨h1, h2⟩]
theorem ovr_no {l t : Nat → Int} {a : Nat} {c : Int} {v : Nat} (h : ¬ (l a < far ∧ t v < far)) : ovr l t a c v = far := by unfold ovr; rw [if_neg h]
theorem pn_more {N : Nat} {es : List E} {x : E} (h : Pn N es) (hl : es.length + 1 ≤ 600) (hx : 0 ≤ x.1 ∧ x.1 < N ∧ 0 ≤ x.2.1 ∧ x.2.1 < N ∧ 1 ≤ x.2.2 ∧ x.2.2 ≤ 10000) : Pn N (es ++ [x]) := by
  refine ⟨h.n1, h.n64, by simpa using hl, fun e he => ?_⟩
  rcases List.mem_append.1 he with he | he
  · exact h.ok e he
  · rw [List.mem_singleton.1 he]; exact hx
theorem IsD.more {N : Nat} {es : List E} {s : Nat} {l t : Nat → Int} {x : E} (hp : Pn N es) (hx : 0 ≤ x.1 ∧ x.1 < N ∧ 0 ≤ x.2.1 ∧ x.2.1 < N ∧ 1 ≤ x.2.2 ∧ x.2.2 ≤ 10000) (hs : s < N) (h : IsD N es s l) (ht : IsD N es x.2.1.toNat t) :
    IsD N (es ++ [x]) s (mor l t x.1.toNat x.2.2) := by
  have hF : far = 1099511627776 := rfl
  obtain ⟨a, ha⟩ : ∃ a, x.1.toNat = a := ⟨_, rfl⟩
  obtain ⟨b, hb⟩ : ∃ b, x.2.1.toNat = b := ⟨_, rfl⟩
  obtain ⟨c, hc⟩ : ∃ c, x.2.2 = c := ⟨_, rfl⟩
  have haN : a < N := by omega
  have hbN : b < N := by omega
  rw [hb] at ht
  have hc1 : 1 ≤ c ∧ c ≤ 10000 := by omega
  rw [ha, hc]
  have ov0 : ∀ v, v < N → 0 ≤ ovr l t a c v ∧ ovr l t a c v ≤ far := by
    intro v hv
    by_cases hq : l a < far ∧ t v < far
    · rw [ovr_yes hq.1 hq.2]
      have := h.lo a haN; have := ht.lo v hv
      have := h.bound hp haN hq.1; have := ht.bound hp hv hq.2
      omega
    · rw [ovr_no hq]; omega
  have ma : l a < far → mor l t a c a = l a := by
    intro hla
    unfold mor
    by_cases hq : t a < far
    · rw [ovr_yes hla hq]; have := ht.lo a haN; omega
    · rw [ovr_no (fun hh => hq hh.2)]; omega
  have rel : ∀ e ∈ es ++ [x], mor l t a c e.1.toNat < far → mor l t a c e.2.1.toNat ≤ mor l t a c e.1.toNat + e.2.2 := by
    intro e he hf
    rcases List.mem_append.1 he with he | he
    · obtain ⟨p1, p2, p3, p4⟩ := hp.nat he
      by_cases hle : l e.1.toNat ≤ ovr l t a c e.1.toNat
      · have e1 : mor l t a c e.1.toNat = l e.1.toNat := by unfold mor; omega
        rw [e1] at hf ⊢
        have := h.rel e he hf
        unfold mor; omega
      · have e1 : mor l t a c e.1.toNat = ovr l t a c e.1.toNat := by unfold mor; omega
        have h1 := h.hi _ p1
        by_cases hq : l a < far ∧ t e.1.toNat < far
        · have h2 := ht.rel e he hq.2
          have h3 := ht.bound hp p1 hq.2
          have h4 : t e.2.1.toNat < far := by omega
          rw [e1, ovr_yes hq.1 hq.2]
          have h5 := ovr_yes (c := c) hq.1 h4
          unfold mor
          rw [h5]
          omega
        · rw [ovr_no hq] at hle; omega
    · rw [List.mem_singleton.1 he] at hf ⊢
      rw [ha] at hf ⊢
      rw [hb, hc]
      have hla : l a < far := by
        by_cases hla : l a < far
        · exact hla
        · have e1 : ovr l t a c a = far := ovr_no (fun hh => hla hh.1)
          have := h.hi a haN
          unfold mor at hf; omega
      rw [ma hla]
      have h5 := ovr_yes (t := t) (v := b) (c := c) hla (by rw [ht.s0]; decide)
      rw [ht.s0] at h5
      unfold mor; rw [h5]; omega
  refine ⟨?_, fun v hv => ?_, fun v hv => ?_, rel, fun v hv hne hf => ?_⟩
  · have := (ov0 s hs).1
    unfold mor; rw [h.s0]; omega
  · have := (ov0 v hv).1; have := h.lo v hv; unfold mor; omega
  · have := h.hi v hv; unfold mor; omega
  · by_cases hle : l v ≤ ovr l t a c v
    · have e1 : mor l t a c v = l v := by unfold mor; omega
      rw [e1] at hf ⊢
      obtain ⟨e, he, h1, h2, h3⟩ := h.sup v hv hne hf
      have h4 : mor l t a c e.1.toNat ≤ l e.1.toNat := by unfold mor; omega
      have h5 := rel e (by simp [he]) (by omega)
      rw [h1, e1] at h5
      exact ⟨e, by simp [he], h1, by omega, by omega⟩
    · have e1 : mor l t a c v = ovr l t a c v := by unfold mor; omega
      have h1 := h.hi v hv
      by_cases hq : l a < far ∧ t v < far
      · rw [e1, ovr_yes hq.1 hq.2] at hf ⊢
        by_cases hvb : v = b
        · subst hvb
          rw [ht.s0]
          refine ⟨x, by simp, hb, ?_, ?_⟩
          · rw [ha, ma hq.1]; exact hq.1
          · rw [ha, hc, ma hq.1]; omega
        · obtain ⟨e, he, k1, k2, k3⟩ := ht.sup v hv hvb hq.2
          have h4 : mor l t a c e.1.toNat ≤ l a + c + t e.1.toNat := by
            have := ovr_yes (v := e.1.toNat) (c := c) hq.1 k2
            unfold mor; omega
          obtain ⟨_, _, q3, _⟩ := hp.nat he
          have h5 := rel e (by simp [he]) (by omega)
          rw [k1, e1, ovr_yes hq.1 hq.2] at h5
          exact ⟨e, by simp [he], k1, by omega, by omega⟩
      · rw [ovr_no hq] at hle; omega
end Go.Proofs.Ytahijfljpjgdlaa.Dm
