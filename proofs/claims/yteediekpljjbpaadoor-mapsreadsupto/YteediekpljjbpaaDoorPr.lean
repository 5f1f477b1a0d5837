/-
  Ground as text is read as it was: plain mathematics over the text's bytes.
-/
import Derived.Test.YteediekpljjbpaaDoorPG
namespace Go.Proofs.YteediekpljjbpaaDoor
open Gm Pm

theorem sg_gc {c : Int} (h0 : 0 ≤ c) (h9 : c ≤ 9) : gc (sg c) = some c ∧ sg c ≠ 10 := by
  rcases (show c = 0 ∨ c = 1 ∨ c = 2 ∨ c = 3 ∨ c = 4 ∨ c = 5 ∨ c = 6 ∨ c = 7 ∨ c = 8 ∨ c = 9 by omega) with rfl | rfl | rfl | rfl | rfl | rfl | rfl | rfl | rfl | rfl <;> decide
theorem cell_ok {W H : Int} {cs : List Int} (hg : Gd W H cs) (k : Nat) : 0 ≤ cs.getD k 0 ∧ cs.getD k 0 ≤ 9 := by
  by_cases h : k < cs.length
  · exact hg.cell k h
  · rw [List.getD_eq_getElem?_getD, List.getElem?_eq_none (by omega)]; decide
theorem gcs_append (a b : List UInt8) : gcs (a ++ b) = gcs a ++ gcs b := by unfold gcs; exact List.filterMap_append
theorem nls_append (a b : List UInt8) : nls (a ++ b) = nls a + nls b := by unfold nls; exact List.countP_append
theorem gcs_pm {W H : Int} {cs : List Int} (hg : Gd W H cs) (k : Nat) (hk : k ≤ cs.length) : gcs (pm W cs k) = cs.take k := by
  induction k with
  | zero => rfl
  | succ k ih =>
    have h1 : gcs [sg (cs.getD k 0)] = [cs.getD k 0] := by unfold gcs; rw [List.filterMap_cons, (sg_gc (cell_ok hg k).1 (cell_ok hg k).2).1]; rfl
    have h2 : cs.take (k + 1) = cs.take k ++ [cs.getD k 0] := by
      rw [List.take_add_one, List.getElem?_eq_getElem (show k < cs.length by omega)]; simp [show k < cs.length by omega]
    have h3 : gcs [10] = [] := by decide
    by_cases hm : (k : Int) % W = W - 1
    · rw [pm_end hm, gcs_append, gcs_append, ih (by omega), h1, h3, List.append_nil, h2]
    · rw [pm_mid hm, gcs_append, ih (by omega), h1, h2]
theorem gcs_txt {W H : Int} {cs : List Int} (hg : Gd W H cs) : gcs (txt W cs) = cs := by
  unfold txt; rw [gcs_pm hg _ (Nat.le_refl _), List.take_length]

/-- The bytes of a row. -/
def row (W : Int) (cs : List Int) (y x : Nat) : List UInt8 := (List.range x).map (fun j => sg (cs.getD (y * W.toNat + j) 0))
theorem row_no {W H : Int} {cs : List Int} (hg : Gd W H cs) (y x : Nat) : ∀ b ∈ row W cs y x, b ≠ 10 := by
  intro b hb
  unfold row at hb
  rw [List.mem_map] at hb
  obtain ⟨j, _, rfl⟩ := hb
  exact (sg_gc (cell_ok hg _).1 (cell_ok hg _).2).2
theorem row_length (W : Int) (cs : List Int) (y x : Nat) : (row W cs y x).length = x := by simp [row]
theorem rw_next {W H : Int} {cs : List Int} (hg : Gd W H cs) (y : Nat) : rw_ W cs (y + 1) 0 = rw_ W cs y 0 ++ (row W cs y W.toNat ++ [10]) := by
  rw [← rw_row hg.w1 cs y, rw_zero, rw_, List.append_assoc]; rfl
theorem nls_row {l : List UInt8} (h : ∀ b ∈ l, b ≠ 10) : nls l = 0 := by
  unfold nls
  rw [List.countP_eq_zero]
  intro b hb
  simpa using h b hb
theorem nls_rw {W H : Int} {cs : List Int} (hg : Gd W H cs) (y : Nat) : nls (rw_ W cs y 0) = y := by
  induction y with
  | zero => simp [rw_zero, pm, nls]
  | succ y ih => rw [rw_next hg, nls_append, nls_append, ih, nls_row (row_no hg _ _)]; simp [nls]
theorem len_rw {W H : Int} {cs : List Int} (hg : Gd W H cs) (y : Nat) : (rw_ W cs y 0).length = y * (W.toNat + 1) := by
  induction y with
  | zero => simp [rw_zero, pm]
  | succ y ih => rw [rw_next hg, List.length_append, List.length_append, ih, row_length, Nat.succ_mul]; simp
theorem nls_txt {W H : Int} {cs : List Int} (hg : Gd W H cs) : (nls (txt W cs) : Int) = H := by
  rw [← rw_all hg.w1 hg.h1 hg.len, nls_rw hg]
  have := hg.h1
  omega
theorem len_txt {W H : Int} {cs : List Int} (hg : Gd W H cs) : (txt W cs).length ≤ 72 := by
  rw [← rw_all hg.w1 hg.h1 hg.len, len_rw hg]
  have h1 := hg.h8
  have h2 := hg.w8
  exact Nat.le_trans (Nat.mul_le_mul (show H.toNat ≤ 8 by omega) (show W.toNat + 1 ≤ 9 by omega)) (by decide)
theorem ix_append (l r : List UInt8) (h : ∀ b ∈ l, b ≠ 10) : Lib.indexByte (l ++ 10 :: r) 10 = l.length := by
  induction l with
  | nil => rfl
  | cons b l ih =>
    have hb : (b == 10) = false := by simpa using h b (List.mem_cons_self ..)
    have := ih (fun c hc => h c (List.mem_cons_of_mem _ hc))
    rw [List.cons_append, Lib.indexByte, hb, this]
    have hne : (((l.length : Int)) == -1) = false := by simp
    rw [hne]
    simp
/-- The first row, a byte 10, and what is behind it. -/
theorem first_row {W H : Int} {cs : List Int} (hg : Gd W H cs) : ∃ r, txt W cs = row W cs 0 W.toNat ++ 10 :: r := by
  have key : ∀ y, ∃ r, rw_ W cs (y + 1) 0 = row W cs 0 W.toNat ++ 10 :: r := by
    intro y
    induction y with
    | zero => exact ⟨[], by rw [rw_next hg, rw_zero, Nat.zero_mul]; rfl⟩
    | succ y ih =>
      obtain ⟨r, hr⟩ := ih
      exact ⟨r ++ (row W cs (y + 1) W.toNat ++ [10]), by rw [rw_next hg, hr]; simp⟩
  have := hg.h1
  obtain ⟨r, hr⟩ := key (H.toNat - 1)
  rw [show H.toNat - 1 + 1 = H.toNat by omega, rw_all hg.w1 hg.h1 hg.len] at hr
  exact ⟨r, hr⟩
theorem ix_txt {W H : Int} {cs : List Int} (hg : Gd W H cs) : Lib.indexByte (txt W cs) 10 = W := by
  obtain ⟨r, hr⟩ := first_row hg
  rw [hr, ix_append _ _ (row_no hg _ _), row_length]
  have := hg.w1
  omega
theorem gd_gchk {W H : Int} {cs : List Int} (hg : Gd W H cs) : gchk W H cs = 0 :=
  gchk_good (decide_eq_true ⟨hg.w1, hg.w8⟩) (decide_eq_true ⟨hg.h1, hg.h8⟩) hg.len (fun k hk => decide_eq_true (hg.cell k hk))
end Go.Proofs.YteediekpljjbpaaDoor
