/-
  Plain widths: over a third place; where there is one; what it is. No Go in sight.
-/
import Derived.Test.YtlmichnnpameeaaFl
namespace Go.Proofs.Ytlmichnnpameeaa.Fl
open Nm Wm Dm Bm Fm

theorem fww_high {N : Nat} {es : List E} (hb : Rnt N es) (k u v : Nat) : fww es k u v ≤ far := by
  have hF : far = 1099511627776 := rfl
  rcases fww_from es k u v with h | h | ⟨e, he, h⟩
  · omega
  · omega
  · have := (hb.nat he).2.2.2; omega
theorem low_edges {N : Nat} {es : List E} (hb : Rnt N es) : ∀ e ∈ es, -far < e.2.2 := fun e he => by
  have hF : far = 1099511627776 := rfl
  have := (hb.nat he).2.2.1; omega
theorem fww_over {N : Nat} {es : List E} (hb : Rnt N es) (x y z : Nat) : min (fww es N x z) (fww es N z y) ≤ fww es N x y := by
  have h1 := fww_high hb N x z
  obtain ⟨t, ht⟩ : ∃ t, min (fww es N x z) (fww es N z y) = t := ⟨_, rfl⟩
  rw [ht]
  by_cases hl : -far < t
  · obtain ⟨i, hi⟩ := (fww_iff (t := t) hl (by omega) hb.inn).1 (show t ≤ fww es N x z by omega)
    obtain ⟨j, hj⟩ := (fww_iff (t := t) hl (by omega) hb.inn).1 (show t ≤ fww es N z y by omega)
    exact (fww_iff (t := t) hl (by omega) hb.inn).2 ⟨i + j, wk_app hi j y hj⟩
  · have := fww_low es (low_edges hb) N x y
    omega
theorem wk_more {p q : E → Bool} {es : List E} {s : Nat} (h : ∀ e ∈ es, p e = true → q e = true) (k : Nat) : ∀ v, Wk p es s k v → Wk q es s k v := by
  induction k with
  | zero => intro v h; exact h
  | succ k ih => rintro v ⟨e, he, hp, h1, h2⟩; exact ⟨e, he, h e he hp, h1, ih _ h2⟩
theorem fww_reach {N : Nat} {es : List E} (hb : Rnt N es) (x y : Nat) : decide (-far < fww es N x y) = fwb (fun _ => true) es N x y := by
  have hF : far = 1099511627776 := rfl
  have h1 := fww_iff (t := -far + 1) (N := N) (u := x) (v := y) (by omega) (by omega) hb.inn
  have h2 := fwb_iff (edge := fun _ => true) hb.inn x (v := y)
  have h3 : (∃ j, Wk (fun e => decide (-far + 1 ≤ e.2.2)) es x j y) ↔ ∃ j, Wk (fun _ => true) es x j y := by
    constructor
    · rintro ⟨j, hj⟩; exact ⟨j, wk_more (fun _ _ _ => rfl) j y hj⟩
    · rintro ⟨j, hj⟩; exact ⟨j, wk_more (fun e he _ => decide_eq_true (by have := low_edges hb e he; omega)) j y hj⟩
  cases b : fwb (fun _ => true) es N x y
  · refine decide_eq_false (fun h => ?_)
    have := h2.2 (h3.1 (h1.1 (by omega)))
    rw [b] at this; cases this
  · have := h1.2 (h3.2 (h2.1 b))
    exact decide_eq_true (by omega)
theorem fww_cost {N : Nat} {es : List E} (hb : Rnt N es) {x y : Nat} (h : x ≠ y) (hn : fww es N x y ≠ -far) : ∃ e ∈ es, e.2.2 = fww es N x y := by
  rcases fww_from es N x y with h1 | h1 | h1
  · exact absurd h1 hn
  · exact absurd h1 (fww_off hb h)
  · exact h1
end Go.Proofs.Ytlmichnnpameeaa.Fl
