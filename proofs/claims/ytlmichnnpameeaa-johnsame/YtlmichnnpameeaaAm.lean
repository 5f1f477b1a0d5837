/-
  Plain costs by heights, and the heights taken off again. No Go in sight.
-/
import Derived.Test.YtlmichnnpameeaaJm
import Derived.Test.YtlmichnnpameeaaZm
namespace Go.Proofs.Ytlmichnnpameeaa.Am
open Nm Wm Dm Bm Jm Zm

/-- Heights that leave no edge below 0. -/
structure Hh (N : Nat) (es : List E) (hs : List Int) : Prop where
  len : hs.length = N
  lo : ∀ i, i < N → -640000 ≤ hs.getD i 0
  hi : ∀ i, i < N → hs.getD i 0 ≤ 0
  rel : ∀ e ∈ es, hs.getD e.2.1.toNat 0 ≤ hs.getD e.1.toNat 0 + e.2.2
theorem Hh.qn {N : Nat} {es : List E} {hs : List Int} (hb : Rnt N es) (h : Hh N es hs) : Qn N (es.map (lvl hs)) := by
  refine ⟨hb.n1, hb.n64, by rw [List.length_map]; exact hb.len, fun e he => ?_⟩
  obtain ⟨x, hx, rfl⟩ := List.mem_map.1 he
  have h1 := hb.ok x hx
  have h2 := hb.nat hx
  have h3 := h.rel x hx
  have h4 := h.lo _ h2.2.1
  have h5 := h.hi _ h2.1
  have e1 : (lvl hs x).1 = x.1 := rfl
  have e2 : (lvl hs x).2.1 = x.2.1 := rfl
  have e3 : (lvl hs x).2.2 = x.2.2 + hs.getD x.1.toNat 0 - hs.getD x.2.1.toNat 0 := rfl
  rw [e1, e2, e3]
  omega
theorem rc_high {N : Nat} {es : List E} (hq : Qn N es) {s : Nat} (k : Nat) : ∀ v c, Rc es (start s) k v c → 0 ≤ c ∧ c ≤ 1000000 * (k : Int) := by
  induction k with
  | zero =>
    intro v c hr
    obtain ⟨h1, h2⟩ := hr
    unfold start at h1
    split at h1
    · omega
    · exact absurd h2 (by omega)
  | succ k ih =>
    intro v c hr
    obtain ⟨h1, e, he, h2, h3⟩ := hr
    have := ih _ _ h3
    have := hq.nat he
    omega
/-- The heights are taken off a walk. -/
theorem rc_back {N : Nat} {es : List E} {hs : List Int} (hb : Rnt N es) (h : Hh N es hs) {s : Nat} (hs' : s < N) (k : Nat) : ∀ v x, v < N → x ≤ 1000000000 → Rc (es.map (lvl hs)) (start s) k v x → Rc es (start s) k v (x - hs.getD s 0 + hs.getD v 0) := by
  have hF : far = 1099511627776 := rfl
  induction k with
  | zero =>
    intro v x hv hx hr
    obtain ⟨h1, h2⟩ := hr
    unfold start at h1
    split at h1
    · next hvs => subst hvs; subst h1; exact ⟨by unfold start; rw [if_pos rfl]; omega, by omega⟩
    · exact absurd h2 (by omega)
  | succ k ih =>
    intro v x hv hx hr
    obtain ⟨h1, e', he', h2, h3⟩ := hr
    obtain ⟨e, he, rfl⟩ := List.mem_map.1 he'
    have hq := (h.qn hb).nat he'
    have hn := hb.nat he
    have e1 : (lvl hs e).1 = e.1 := rfl
    have e2 : (lvl hs e).2.1 = e.2.1 := rfl
    have e3 : (lvl hs e).2.2 = e.2.2 + hs.getD e.1.toNat 0 - hs.getD e.2.1.toNat 0 := rfl
    rw [e2] at h2
    rw [e1] at h3
    have h4 := ih _ _ hn.1 (by have := hq.2.2.1; omega) h3
    have l1 := h.lo s hs'
    have l2 := h.hi v hv
    refine ⟨by omega, e, he, h2, ?_⟩
    rw [e3, h2] at h4
    rw [show x - hs.getD s 0 + hs.getD v 0 - e.2.2 = x - (e.2.2 + hs.getD e.1.toNat 0 - hs.getD v 0) - hs.getD s 0 + hs.getD e.1.toNat 0 by omega]
    exact h4
/-- What it costs, with the heights taken off. -/
def off (hs : List Int) (s : Nat) (d : Nat → Int) (t : Nat) : Int := if d t = 1099511627776 then 1099511627776 else d t - hs.getD s 0 + hs.getD t 0
theorem ls_high {N : Nat} {es : List E} (hq : Qn N es) {s : Nat} {d : Nat → Int} (h : Ls N es (start s) d) {v : Nat} (hv : v < N) (hf : d v < far) : 0 ≤ d v ∧ d v ≤ 64000000 := by
  obtain ⟨k, hk, hr⟩ := h.short hq.inn hv hf
  have := rc_high hq k v _ hr
  have := hq.n64
  omega
theorem ls_off {N : Nat} {es : List E} {hs : List Int} (hb : Rnt N es) (h : Hh N es hs) {s : Nat} (hs' : s < N) {d : Nat → Int} (hd : Ls N (es.map (lvl hs)) (start s) d) : Ls N es (start s) (off hs s d) := by
  have hF : far = 1099511627776 := rfl
  have hq := h.qn hb
  have big : ∀ v, v < N → d v = 1099511627776 ∨ (d v < 1099511627776 ∧ 0 ≤ d v ∧ d v ≤ 64000000) := by
    intro v hv
    have h1 := hd.hi v hv
    by_cases h2 : d v < far
    · exact .inr ⟨h2, ls_high hq hd hv h2⟩
    · exact .inl (by omega)
  refine ⟨fun v hv => ?_, fun v hv => ?_, fun e he hf => ?_, fun v hv hf => ?_⟩
  · unfold off
    split
    · omega
    · have := big v hv; have := h.lo s hs'; have := h.hi v hv; omega
  · unfold start
    split
    · next hvs =>
      subst hvs
      have h1 := hd.base v hv
      unfold start at h1
      rw [if_pos rfl] at h1
      unfold off
      rw [if_neg (by omega)]
      omega
    · unfold off
      split
      · omega
      · have := big v hv; have := h.lo s hs'; have := h.hi v hv; omega
  · have hn := hb.nat he
    have h1 : d e.1.toNat ≠ 1099511627776 := by
      intro hc
      unfold off at hf
      rw [if_pos hc] at hf
      omega
    have h2 := big _ hn.1
    have h3 := hd.rel (lvl hs e) (List.mem_map.2 ⟨e, he, rfl⟩) (by have e1 : (lvl hs e).1 = e.1 := rfl; rw [e1]; omega)
    have e1 : (lvl hs e).1 = e.1 := rfl
    have e2 : (lvl hs e).2.1 = e.2.1 := rfl
    have e3 : (lvl hs e).2.2 = e.2.2 + hs.getD e.1.toNat 0 - hs.getD e.2.1.toNat 0 := rfl
    have h4 := (hq.nat (List.mem_map.2 ⟨e, he, rfl⟩)).2.2.2
    rw [e3] at h4
    rw [e1, e2, e3] at h3
    have h5 := big _ hn.2.1
    unfold off
    rw [if_neg h1, if_neg (by omega)]
    omega
  · have h1 : d v ≠ 1099511627776 := by
      intro hc
      unfold off at hf
      rw [if_pos hc] at hf
      omega
    have h2 := big v hv
    obtain ⟨k, hk⟩ := hd.real v hv (by omega)
    refine ⟨k, ?_⟩
    unfold off
    rw [if_neg h1]
    exact rc_back hb h hs' k v _ hv (by omega) hk
end Go.Proofs.Ytlmichnnpameeaa.Am
