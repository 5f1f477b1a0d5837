/-
  How the document reads a text: rows, the first row, the cells' bytes: plain mathematics.
-/
import Derived.Test.YteediekpljjbpaaDoorPr
import Derived.Lib.SplitLaws
namespace Go.Proofs.YteediekpljjbpaaDoor
open Gm Pm

def signL : List UInt8 := [35, 49, 50, 51, 52, 53, 54, 55, 56, 57]
/-- The cell that a byte stands for, by its place among the signs. -/
def kc (b : UInt8) : Option Int := if 0 ≤ Lib.indexByte signL b then some (Lib.indexByte signL b) else none
def kcs (l : List UInt8) : List Int := l.filterMap kc
theorem kcs_length (l : List UInt8) : (kcs l).length ≤ l.length := List.length_filterMap_le _ _
theorem kcs_next {l : List UInt8} {k : Nat} (h : k < l.length) : kcs (l.take (k + 1)) = kcs (l.take k) ++ (kc (l.getD k 0)).toList := by
  rw [take_next h]; unfold kcs; rw [List.filterMap_append]; rfl
theorem sg_kc {c : Int} (h0 : 0 ≤ c) (h9 : c ≤ 9) : kc (sg c) = some c := by
  rcases (show c = 0 ∨ c = 1 ∨ c = 2 ∨ c = 3 ∨ c = 4 ∨ c = 5 ∨ c = 6 ∨ c = 7 ∨ c = 8 ∨ c = 9 by omega) with rfl | rfl | rfl | rfl | rfl | rfl | rfl | rfl | rfl | rfl <;> decide
theorem kcs_append (a b : List UInt8) : kcs (a ++ b) = kcs a ++ kcs b := by unfold kcs; exact List.filterMap_append
theorem kcs_pm {W H : Int} {cs : List Int} (hg : Gd W H cs) (k : Nat) (hk : k ≤ cs.length) : kcs (pm W cs k) = cs.take k := by
  induction k with
  | zero => rfl
  | succ k ih =>
    have h1 : kcs [sg (cs.getD k 0)] = [cs.getD k 0] := by unfold kcs; rw [List.filterMap_cons, sg_kc (cell_ok hg k).1 (cell_ok hg k).2]; rfl
    have h2 : cs.take (k + 1) = cs.take k ++ [cs.getD k 0] := by
      rw [List.take_add_one, List.getElem?_eq_getElem (show k < cs.length by omega)]; simp [show k < cs.length by omega]
    have h3 : kcs [10] = [] := by decide
    by_cases hm : (k : Int) % W = W - 1
    · rw [pm_end hm, kcs_append, kcs_append, ih (by omega), h1, h3, List.append_nil, h2]
    · rw [pm_mid hm, kcs_append, ih (by omega), h1, h2]
theorem kcs_txt {W H : Int} {cs : List Int} (hg : Gd W H cs) : kcs (txt W cs) = cs := by
  unfold txt; rw [kcs_pm hg _ (Nat.le_refl _), List.take_length]

/-- Where the first byte 10 stands. -/
theorem ix_split (l : List UInt8) : (Lib.indexByte l 10 = -1 ∧ ∀ b ∈ l, b ≠ 10) ∨ ∃ a r, l = a ++ 10 :: r ∧ Lib.indexByte l 10 = a.length ∧ ∀ b ∈ a, b ≠ 10 := by
  induction l with
  | nil => exact .inl ⟨rfl, by simp⟩
  | cons b l ih =>
    by_cases hb : b = 10
    · subst hb
      exact .inr ⟨[], l, rfl, rfl, by simp⟩
    · rcases ih with ⟨h1, h2⟩ | ⟨a, r, h1, h2, h3⟩
      · left
        refine ⟨?_, ?_⟩
        · rw [Lib.indexByte, if_neg (by simpa using hb), h1]; rfl
        · intro c hc
          rcases List.mem_cons.1 hc with rfl | hc
          · exact hb
          · exact h2 c hc
      · right
        refine ⟨b :: a, r, by rw [h1]; rfl, ?_, ?_⟩
        · subst h1
          exact ix_append (b :: a) r (fun c hc => by
            rcases List.mem_cons.1 hc with rfl | hc
            · exact hb
            · exact h3 c hc)
        · intro c hc
          rcases List.mem_cons.1 hc with rfl | hc
          · exact hb
          · exact h3 c hc
theorem index_ix (l : List UInt8) : Lib.index l [10] = Lib.indexByte l 10 := Lib.index_one l 10
/-- How often the separator stands in a text is how many bytes 10 it has. -/
theorem count_nls : ∀ (n : Nat) (l : List UInt8), l.length ≤ n → Lib.count l [10] = nls l := by
  intro n
  induction n with
  | zero =>
    intro l hl
    obtain rfl : l = [] := List.length_eq_zero_iff.1 (by omega)
    decide
  | succ n ih =>
    intro l hl
    rcases ix_split l with ⟨h1, h2⟩ | ⟨a, r, rfl, h2, h3⟩
    · rw [Lib.count_miss (by rw [index_ix]; exact h1), nls_row h2]
    · rw [Lib.count_hit (i := a.length) (by simp) (by rw [index_ix]; exact h2)]
      have e : (a ++ 10 :: r).drop (a.length + [(10 : UInt8)].length) = r := by simp
      rw [e, ih r (by simp at hl; omega), nls_append, nls_row h3]
      simp [nls]; omega
end Go.Proofs.YteediekpljjbpaaDoor
