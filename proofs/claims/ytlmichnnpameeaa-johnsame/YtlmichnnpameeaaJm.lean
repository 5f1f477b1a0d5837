/-
  Plain nets by heights. No Go in sight.
-/
import Derived.Test.YtlmichnnpameeaaBm
namespace Go.Proofs.Ytlmichnnpameeaa.Jm
open Nm Wm Dm Bm

/-- Are these heights? -/
def hgt (hs : List Int) : Bool := hs.all (fun x => decide (-1000000 ≤ x ∧ x ≤ 1000000))
/-- An edge by heights. -/
def lvl (hs : List Int) (e : E) : E := (e.1, e.2.1, e.2.2 + hs.getD e.1.toNat 0 - hs.getD e.2.1.toNat 0)
/-- What is wrong with the first edge that has something wrong. -/
def fch : List E → Int
  | [] => 0
  | e :: r => if e.2.2 < 0 then 4 else if 10000 < e.2.2 then 2 else fch r
theorem fch_low {l : List E} {k : Nat} (hi : fch l = fch (l.drop k)) (h : k < l.length) (hc : (at3 l k).2.2 < 0) : fch l = 4 := by
  rw [hi, drop_at h, fch, if_pos hc]
theorem fch_high {l : List E} {k : Nat} (hi : fch l = fch (l.drop k)) (h : k < l.length) (hc : ¬ (at3 l k).2.2 < 0) (hd : 10000 < (at3 l k).2.2) : fch l = 2 := by
  rw [hi, drop_at h, fch, if_neg hc, if_pos hd]
theorem fch_next {l : List E} {k : Nat} (hi : fch l = fch (l.drop k)) (h : k < l.length) (hc : ¬ (at3 l k).2.2 < 0) (hd : ¬ 10000 < (at3 l k).2.2) : fch l = fch (l.drop (k + 1)) := by
  rw [hi, drop_at h, fch, if_neg hc, if_neg hd]
theorem fch_end {l : List E} (hi : fch l = fch (l.drop l.length)) : fch l = 0 := by rw [hi, List.drop_length, fch]
theorem fch_zero {l : List E} (h : fch l = 0) : ∀ e ∈ l, 0 ≤ e.2.2 ∧ e.2.2 ≤ 10000 := by
  induction l with
  | nil => intro e he; cases he
  | cons x r ih =>
    rw [fch] at h
    split at h
    · omega
    · split at h
      · omega
      · intro e he
        rcases List.mem_cons.1 he with rfl | he
        · omega
        · exact ih h e he
theorem fch_is (l : List E) : fch l = 0 ∨ fch l = 4 ∨ fch l = 2 := by
  induction l with
  | nil => exact .inl rfl
  | cons x r ih => rw [fch]; split
                   · exact .inr (.inl rfl)
                   · split
                     · exact .inr (.inr rfl)
                     · exact ih
theorem hgt_at {hs : List Int} (h : hgt hs = true) {i : Nat} (hi : i < hs.length) : -1000000 ≤ hs.getD i 0 ∧ hs.getD i 0 ≤ 1000000 := by
  have h1 := List.all_eq_true.1 h (hs.getD i 0) (by rw [List.getD_eq_getElem?_getD, List.getElem?_eq_getElem hi]; exact List.getElem_mem _)
  exact of_decide_eq_true h1
theorem hgt_yes {hs : List Int} (h : ∀ i, i < hs.length → -1000000 ≤ hs.getD i 0 ∧ hs.getD i 0 ≤ 1000000) : hgt hs = true := by
  refine List.all_eq_true.2 (fun x hx => ?_)
  obtain ⟨i, hi, rfl⟩ := List.mem_iff_getElem.1 hx
  have := h i hi
  rw [List.getD_eq_getElem?_getD, List.getElem?_eq_getElem hi] at this
  exact decide_eq_true this
theorem hgt_no {hs : List Int} {i : Nat} (hi : i < hs.length) (h : ¬ (-1000000 ≤ hs.getD i 0 ∧ hs.getD i 0 ≤ 1000000)) : hgt hs = false := by
  cases e : hgt hs with
  | false => rfl
  | true => exact absurd (hgt_at e hi) h
theorem at3_map (f : E → E) {es : List E} {i : Nat} (h : i < es.length) : at3 (es.map f) i = f (at3 es i) := by
  unfold at3
  simp [List.getD_eq_getElem?_getD, h]
end Go.Proofs.Ytlmichnnpameeaa.Jm
