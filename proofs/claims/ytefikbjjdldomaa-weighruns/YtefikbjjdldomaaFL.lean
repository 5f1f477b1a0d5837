/-
  What is wrong with a search's input.
-/
import Derived.Test.YtefikbjjdldomaaEB
namespace Go.Proofs.Ytefikbjjdldomaa
open Go.RowKit
open Nm Wm Dm

theorem gs_nat {n v : Int} (h : plc n v = true) : ∃ s : Nat, v = (s : Int) ∧ (s : Int) < n := by
  have := of_decide_eq_true h
  exact ⟨v.toNat, by omega, by omega⟩
theorem gs_gn {n t : Int} {es : List E} (h : lk n es [t] = 0) : ∃ N s : Nat, n = N ∧ t = s ∧ s < N ∧ Pn N es := by
  obtain ⟨h1, h2⟩ := lk_zero h
  obtain ⟨_, hp, hn⟩ := pn_of h1
  have := List.all_eq_true.1 h2 t (by simp)
  obtain ⟨s, rfl, hs⟩ := gs_nat this
  exact ⟨n.toNat, s, hn.symm, rfl, by omega, hp⟩
/-- What is wrong with a search's input. -/
def sls (n : Int) (es : List E) (s t : Int) (h : List Int) : Int := if lk n es [s, t] ≠ 0 then lk n es [s, t] else gus n es t h
theorem sls_zero {n s t : Int} {es : List E} {h : List Int} (hs : sls n es s t h = 0) : ∃ N S T : Nat, n = N ∧ s = S ∧ t = T ∧ S < N ∧ T < N ∧ Pn N es ∧ gus n es t h = 0 ∧ lk n es [t] = 0 := by
  unfold sls at hs
  split at hs
  · rename_i h1; exact absurd hs h1
  · rename_i h1
    have h1 : lk n es [s, t] = 0 := by simpa using h1
    obtain ⟨h2, h3⟩ := lk_zero h1
    obtain ⟨_, hp, hn⟩ := pn_of h2
    have a := List.all_eq_true.1 h3 s (by simp)
    have b := List.all_eq_true.1 h3 t (by simp)
    obtain ⟨S, rfl, hS⟩ := gs_nat a
    obtain ⟨T, rfl, hT⟩ := gs_nat b
    exact ⟨n.toNat, S, T, hn.symm, rfl, rfl, by omega, by omega, hp, hs, lk_ok h2 (by
      intro k hk
      have : k = 0 := by simpa using hk
      subst this; simpa using b)⟩
end Go.Proofs.Ytefikbjjdldomaa
