/-
  Contracts: cheapest, bounds, check, Cost.
-/
import Derived.Test.YtdgihpegdcoilaaNA
import Derived.Test.YtdgihpegdcoilaaWm
namespace Go.Proofs.Ytdgihpegdcoilaa
open Go.RowKit
open Nm Wm

def bnd (p : List Int) : Int := if p.length = 0 then 1 else if 104 < p.length then 2 else 0
theorem bnd_zero {p : List Int} (h : bnd p = 0) : p.length ≠ 0 ∧ p.length ≤ 104 := by
  unfold bnd at h
  split at h
  · cases h
  · split at h
    · cases h
    · omega

/-- What check says. -/
def pck (n : Int) (es : List E) (p : List Int) : Int := if nck n es ≠ 0 then nck n es else if bnd p ≠ 0 then bnd p else if p.all (plc n) = true then 0 else 1
theorem pck_net {n : Int} {es : List E} (p : List Int) (h : nck n es ≠ 0) : pck n es p = nck n es := by unfold pck; rw [if_pos h]
theorem pck_bnd {n : Int} {es : List E} {p : List Int} (h : nck n es = 0) (h1 : bnd p ≠ 0) : pck n es p = bnd p := by unfold pck; rw [if_neg (by simp [h]), if_pos h1]
theorem all_at {n : Int} {p : List Int} (h : ∀ k, k < p.length → plc n (p.getD k 0) = true) : p.all (plc n) = true := by
  rw [List.all_eq_true]
  intro x hx
  obtain ⟨k, hk, rfl⟩ := List.mem_iff_getElem.1 hx
  have := h k hk
  rwa [List.getD_eq_getElem?_getD, List.getElem?_eq_getElem hk] at this
theorem all_not {n : Int} {p : List Int} {k : Nat} (hk : k < p.length) (h : plc n (p.getD k 0) = false) : p.all (plc n) = false := by
  cases ha : p.all (plc n)
  · rfl
  · rw [List.all_eq_true] at ha
    have := ha (p.getD k 0) (by simp [List.getD_eq_getElem?_getD, hk])
    rw [h] at this; cases this
theorem pck_out {n : Int} {es : List E} {p : List Int} (h : nck n es = 0) (h1 : bnd p = 0) (h2 : p.all (plc n) = false) : pck n es p = 1 := by
  unfold pck; rw [if_neg (by simp [h]), if_neg (by simp [h1]), if_neg (by simp [h2])]
theorem pck_ok {n : Int} {es : List E} {p : List Int} (h : nck n es = 0) (h1 : bnd p = 0) (h2 : p.all (plc n) = true) : pck n es p = 0 := by
  unfold pck; rw [if_neg (by simp [h]), if_neg (by simp [h1]), if_pos h2]
theorem pck_zero {n : Int} {es : List E} {p : List Int} (h : pck n es p = 0) : nck n es = 0 ∧ bnd p = 0 ∧ p.all (plc n) = true := by
  unfold pck at h
  split at h
  · rename_i h1; exact absurd h h1
  · rename_i h1
    split at h
    · rename_i h2; exact absurd h h2
    · rename_i h2
      split at h
      · rename_i h3; exact ⟨Classical.byContradiction h1, Classical.byContradiction h2, h3⟩
      · cases h
theorem wcode_pck {n : Int} {es : List E} {p : List Int} (h : pck n es p ≠ 0) : wcode n es p = (0, pck n es p) := by
  by_cases h0 : nck n es = 0
  · by_cases h1 : bnd p = 0
    · cases h2 : p.all (plc n)
      · have := bnd_zero h1
        rw [pck_out h0 h1 h2, wcode_out h0 this.1 (by omega) h2]
      · exact absurd (pck_ok h0 h1 h2) h
    · rw [pck_bnd h0 h1]
      unfold bnd at h1 ⊢
      by_cases h2 : p.length = 0
      · rw [if_pos h2, wcode_nil h0 h2]
      · rw [if_neg h2] at h1 ⊢
        by_cases h3 : 104 < p.length
        · rw [if_pos h3, wcode_long h0 h3]
        · rw [if_neg h3] at h1; exact absurd rfl h1
  · rw [pck_net p h0, wcode_net p h0]

end Go.Proofs.Ytdgihpegdcoilaa
