/-
  Plain costs: functions turned at one place, counting, the document's spreading. No Go in sight.
-/
import Derived.Test.YtdgihpegdcoilaaWm
namespace Go.Proofs.Ytdgihpegdcoilaa.Dm
open Nm Wm
set_option linter.unusedSimpArgs false

def upd (d : Nat → Int) (y : Nat) (x : Int) : Nat → Int := fun i => if i = y then x else d i
theorem upd_same (d : Nat → Int) (y : Nat) (x : Int) : upd d y x y = x := if_pos rfl
theorem upd_other (d : Nat → Int) {y i : Nat} (x : Int) (h : i ≠ y) : upd d y x i = d i := if_neg h

def cntf : Nat → (Nat → Bool) → Nat
  | 0, _ => 0
  | n + 1, p => cntf n p + if p n then 1 else 0
theorem cntf_le (n : Nat) (p : Nat → Bool) : cntf n p ≤ n := by
  induction n with
  | zero => simp [cntf]
  | succ n ih => rw [cntf]; split <;> omega
theorem cntf_mono (n : Nat) (p q : Nat → Bool) (h : ∀ i, i < n → p i = true → q i = true) : cntf n p ≤ cntf n q := by
  induction n with
  | zero => simp [cntf]
  | succ n ih =>
    rw [cntf, cntf]
    have := ih (fun i hi => h i (by omega))
    by_cases hp : p n = true
    · rw [if_pos hp, if_pos (h n (by omega) hp)]; omega
    · rw [if_neg hp]; omega
theorem cntf_lt (n : Nat) (p q : Nat → Bool) (h : ∀ i, i < n → p i = true → q i = true) (u : Nat) (hu : u < n) (hq : q u = true) (hp : p u = false) : cntf n p + 1 ≤ cntf n q := by
  induction n with
  | zero => omega
  | succ n ih =>
    rw [cntf, cntf]
    by_cases e : u = n
    · subst e
      have := cntf_mono u p q (fun i hi => h i (by omega))
      rw [if_pos hq, if_neg (by simp [hp])]; omega
    · have := ih (fun i hi => h i (by omega)) (by omega)
      by_cases hpn : p n = true
      · rw [if_pos hpn, if_pos (h n (by omega) hpn)]; omega
      · rw [if_neg hpn]; omega
/-- How many cost less than x. -/
def rk (N : Nat) (d : Nat → Int) (x : Int) : Nat := cntf N (fun i => decide (d i < x))
theorem rk_lt {N : Nat} {d : Nat → Int} {u : Nat} {x : Int} (hu : u < N) (h : d u < x) : rk N d (d u) + 1 ≤ rk N d x := by
  refine cntf_lt N _ _ (fun i _ hi => ?_) u hu (by simp [h]) (by simp)
  have := of_decide_eq_true hi
  exact decide_eq_true (by omega)
theorem rk_less {N : Nat} {d : Nat → Int} {v : Nat} (hv : v < N) : rk N d (d v) + 1 ≤ N := by
  have h1 := cntf_lt N (fun i => decide (d i < d v)) (fun _ => true) (fun _ _ _ => rfl) v hv rfl (by simp)
  have h2 := cntf_le N (fun _ => true)
  unfold rk; omega

def start (s : Nat) : Nat → Int := fun i => if i = s then 0 else far
/-- One round of the document's spreading: the first k edges are looked at. -/
def nx (d : Nat → Int) (es : List E) : Nat → Nat → Int
  | 0 => d
  | k + 1 => if d (at3 es k).1.toNat < far then upd (nx d es k) (at3 es k).2.1.toNat (min (nx d es k (at3 es k).2.1.toNat) (d (at3 es k).1.toNat + (at3 es k).2.2)) else nx d es k
theorem nx_yes {d : Nat → Int} {es : List E} {k : Nat} (h : d (at3 es k).1.toNat < far) : nx d es (k + 1) = upd (nx d es k) (at3 es k).2.1.toNat (min (nx d es k (at3 es k).2.1.toNat) (d (at3 es k).1.toNat + (at3 es k).2.2)) := by rw [nx, if_pos h]
theorem nx_no {d : Nat → Int} {es : List E} {k : Nat} (h : ¬ d (at3 es k).1.toNat < far) : nx d es (k + 1) = nx d es k := by rw [nx, if_neg h]
theorem nx_step (d : Nat → Int) (es : List E) (k v : Nat) : nx d es (k + 1) v ≤ nx d es k v := by
  by_cases h : d (at3 es k).1.toNat < far
  · rw [nx_yes h]
    by_cases e : v = (at3 es k).2.1.toNat
    · subst e; rw [upd_same]; omega
    · rw [upd_other _ _ e]; exact Int.le_refl _
  · rw [nx_no h]; exact Int.le_refl _
theorem nx_mono (d : Nat → Int) (es : List E) (v : Nat) {j k : Nat} (h : j ≤ k) : nx d es k v ≤ nx d es j v := by
  induction k with
  | zero => obtain rfl : j = 0 := by omega
            exact Int.le_refl _
  | succ k ih =>
    rcases (show j ≤ k ∨ j = k + 1 by omega) with h1 | rfl
    · exact Int.le_trans (nx_step d es k v) (ih h1)
    · exact Int.le_refl _
theorem nx_rel {d : Nat → Int} {es : List E} {e : E} (he : e ∈ es) (hf : d e.1.toNat < far) : nx d es es.length e.2.1.toNat ≤ d e.1.toNat + e.2.2 := by
  obtain ⟨j, hj, rfl⟩ := List.mem_iff_getElem.1 he
  have e3 : at3 es j = es[j] := by unfold at3; simp [hj]
  have h1 := nx_mono d es (es[j]).2.1.toNat (show j + 1 ≤ es.length by omega)
  refine Int.le_trans h1 ?_
  rw [nx_yes (by rw [e3]; exact hf), e3, upd_same]
  omega
theorem nx_from (d : Nat → Int) (es : List E) (k v : Nat) (hk : k ≤ es.length) : nx d es k v = d v ∨ ∃ e ∈ es, e.2.1.toNat = v ∧ d e.1.toNat < far ∧ nx d es k v = d e.1.toNat + e.2.2 := by
  induction k with
  | zero => exact .inl rfl
  | succ k ih =>
    have ih := ih (by omega)
    by_cases h : d (at3 es k).1.toNat < far
    · rw [nx_yes h]
      by_cases e : v = (at3 es k).2.1.toNat
      · subst e
        rw [upd_same]
        by_cases hm : nx d es k (at3 es k).2.1.toNat ≤ d (at3 es k).1.toNat + (at3 es k).2.2
        · rw [show min (nx d es k (at3 es k).2.1.toNat) (d (at3 es k).1.toNat + (at3 es k).2.2) = nx d es k (at3 es k).2.1.toNat by omega]
          exact ih
        · rw [show min (nx d es k (at3 es k).2.1.toNat) (d (at3 es k).1.toNat + (at3 es k).2.2) = d (at3 es k).1.toNat + (at3 es k).2.2 by omega]
          exact .inr ⟨at3 es k, mem_at (by omega), rfl, h, rfl⟩
      · rw [upd_other _ _ e]; exact ih
    · rw [nx_no h]; exact ih
/-- So many rounds. -/
def spr (es : List E) (d : Nat → Int) : Nat → Nat → Int
  | 0 => d
  | k + 1 => nx (spr es d k) es es.length
end Go.Proofs.Ytdgihpegdcoilaa.Dm
