/-
  Plain costs with edges below 0, where there are least ones: they are tight, and the first place costs 0. No Go in sight.
-/
import Derived.Test.YtidbbkpgmcheiaaBm
namespace Go.Proofs.Ytidbbkpgmcheiaa.Tm
open Nm Wm Dm Bm

/-- A walk from s behind a walk to s. -/
theorem rc_join {es : List E} {d0 : Nat → Int} {s j : Nat} {x : Int} (hx : x ≤ 0) (h : Rc es d0 j s x) (k : Nat) : ∀ v c, Rc es (start s) k v c → Rc es d0 (j + k) v (x + c) := by
  induction k with
  | zero =>
    intro v c hr
    obtain ⟨h1, h2⟩ := hr
    unfold start at h1
    split at h1
    · next hv => subst hv; subst h1; rw [Nat.add_zero, Int.add_zero]; exact h
    · exact absurd h2 (by omega)
  | succ k ih =>
    intro v c hr
    obtain ⟨h1, e, he, h2, h3⟩ := hr
    have := ih _ _ h3
    refine ⟨by omega, e, he, h2, ?_⟩
    rw [show x + c - e.2.2 = x + (c - e.2.2) by omega]
    exact this

structure Tt (N : Nat) (es : List E) (s : Nat) (d : Nat → Int) : Prop where
  zero : d s = 0
  hi : ∀ v, v < N → d v ≤ 1099511627776
  rel : ∀ e ∈ es, d e.1.toNat < 1099511627776 → d e.2.1.toNat ≤ d e.1.toNat + e.2.2
  sup : ∀ v, v < N → v ≠ s → d v < 1099511627776 → ∃ e ∈ es, e.2.1.toNat = v ∧ d e.1.toNat < 1099511627776 ∧ d e.1.toNat + e.2.2 = d v

theorem ls_tight {N : Nat} {es : List E} {s : Nat} {d : Nat → Int} (hi : Inn N es) (hs : s < N) (h : Ls N es (start s) d) : Tt N es s d := by
  have hF : far = 1099511627776 := rfl
  refine ⟨?_, fun v hv => hF ▸ h.hi v hv, fun e he hf => h.rel e he hf, fun v hv hne hf => ?_⟩
  · have h0 := h.base s hs
    have h00 : start s s = 0 := by unfold start; rw [if_pos rfl]
    rw [h00] at h0
    obtain ⟨k, hk⟩ := h.real s hs (by omega)
    have h2 := rc_join h0 hk k s _ hk
    have := h.least hi _ s _ hs h2
    omega
  · obtain ⟨k, hk⟩ := h.real v hv hf
    cases k with
    | zero =>
      have h1 := hk.1
      unfold start at h1
      rw [if_neg hne] at h1
      omega
    | succ k =>
      obtain ⟨h1, e, he, h2, h3⟩ := hk
      have h4 := h3.lt
      have h5 := h.least hi _ _ _ (hi e he).1 h3
      have h6 := h.rel e he (by omega)
      rw [h2] at h6
      exact ⟨e, he, h2, by omega, by omega⟩
end Go.Proofs.Ytidbbkpgmcheiaa.Tm
