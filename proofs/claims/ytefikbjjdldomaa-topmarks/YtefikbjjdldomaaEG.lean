/-
  Contracts: apart, the program's and the document's; tables as they are read; greatest, the document's Bound.
-/
import Derived.Test.YtefikbjjdldomaaLK
import Derived.Test.YtefikbjjdldomaaMx
namespace Go.Proofs.Ytefikbjjdldomaa
open Go.RowKit
open Nm Wm Dm
attribute [local go_sem ↓] Go.wp_at_zero Go.wp_at_succ

/-- How much more b is than a. -/
def apt (a b : Int) : Int := if a = 1099511627776 then 0 else if b = 1099511627776 then 1099511627776 else if b < a then 0 else b - a
theorem apt_lo {a b : Int} (_ha : 0 ≤ a) (_hb : 0 ≤ b) : 0 ≤ apt a b := by unfold apt; split <;> (try split) <;> (try split) <;> omega
theorem apt_hi {a b : Int} (ha : 0 ≤ a) (hb : b ≤ 1099511627776) : apt a b ≤ 1099511627776 := by unfold apt; split <;> (try split) <;> (try split) <;> omega
set_option maxRecDepth 100000 in
theorem apart_any (a b : Int) (w : World) (ha : 0 ≤ a ∧ a ≤ 1099511627776) (hb : 0 ≤ b ∧ b ≤ 1099511627776) :
    Calls Try.prog 81 #[.int .i64 a, .int .i64 b] w fun e w' => e = .returned (.int .i64 (apt a b)) ∧ w' = w := by
  obtain ⟨a0, a1⟩ := ha
  obtain ⟨b0, b1⟩ := hb
  by_cases h1 : a = 1099511627776
  · have HF : Hid (apt a b = 0) := by unfold Hid apt; rw [if_pos h1]
    have e1 : (a == 1099511627776) = true := by simp [h1]
    clear h1
    go_enter Try.func81, Try.ntmps81
    go_wp2_with fail
    go_ret
    exact ⟨ret_int HF.out.symm, rfl⟩
  · have e1 : (a == 1099511627776) = false := by simp [h1]
    by_cases h2 : b = 1099511627776
    · have HF : Hid (apt a b = 1099511627776) := by unfold Hid apt; rw [if_neg h1, if_pos h2]
      have e2 : (b == 1099511627776) = true := by simp [h2]
      clear h1 h2
      go_enter Try.func81, Try.ntmps81
      go_wp2_with fail
      go_ret
      exact ⟨ret_int HF.out.symm, rfl⟩
    · have e2 : (b == 1099511627776) = false := by simp [h2]
      by_cases h3 : b < a
      · have HF : Hid (apt a b = 0) := by unfold Hid apt; rw [if_neg h1, if_neg h2, if_pos h3]
        have h4 : b - a < 0 := by omega
        clear h1 h2 h3
        go_enter Try.func81, Try.ntmps81
        go_wp2_with fail
        go_ret
        exact ⟨ret_int HF.out.symm, rfl⟩
      · have HF : Hid (apt a b = b - a) := by unfold Hid apt; rw [if_neg h1, if_neg h2, if_neg h3]
        clear h1 h2
        rcases (show 0 < b - a ∨ b - a = 0 by omega) with h4 | h4
        · go_enter Try.func81, Try.ntmps81
          go_wp2_with fail
          go_ret
          exact ⟨ret_int HF.out.symm, rfl⟩
        · rw [h4] at HF
          go_enter Try.func81, Try.ntmps81
          go_wp2_with fail
          go_ret
          exact ⟨ret_int (by rw [HF.out]), rfl⟩
/-- A table as it is read. -/
structure SlT (w : World) (v : Value) (rows : List (List Int)) : Prop where
  is : (∃ a c, v = .slice a 0 c ∧ rows = []) ∨ ∃ b off cap, v = .slice (some ⟨b, off, none⟩) rows.length cap ∧ ∀ i, i < rows.length → ∃ u, w.cell? ⟨b, off + i, none⟩ = some u ∧ SlI w u (rows.getD i [])
theorem SlT.no {w : World} {v : Value} {rows : List (List Int)} (a : Option Addr) (c : Nat) (h : v = .slice a 0 c) (e : rows = []) : SlT w v rows := ⟨.inl ⟨a, c, h, e⟩⟩
theorem SlT.val {w : World} {v : Value} {rows : List (List Int)} (h : SlT w v rows) : ∃ a c, v = .slice a rows.length c := by
  rcases h.is with ⟨a, c, rfl, rfl⟩ | ⟨b, off, cap, rfl, _⟩
  · exact ⟨a, c, rfl⟩
  · exact ⟨_, _, rfl⟩
theorem SlT.below {w w' : World} {v : Value} {rows : List (List Int)} (h : SlT w v rows) (hb : Below w.heap.size w w') : SlT w' v rows := by
  rcases h.is with h | ⟨b, off, cap, e, h⟩
  · exact ⟨.inl h⟩
  · refine ⟨.inr ⟨b, off, cap, e, fun i hi => ?_⟩⟩
    obtain ⟨u, h1, h2⟩ := h i hi
    exact ⟨u, kept hb h1, h2.below hb⟩
theorem SlT.some' {w : World} {v : Value} {rows : List (List Int)} (h : SlT w v rows) (hl : 0 < rows.length) : ∃ b off cap, v = .slice (some ⟨b, off, none⟩) rows.length cap ∧ ∀ i, i < rows.length → ∃ u, w.cell? ⟨b, off + i, none⟩ = some u ∧ SlI w u (rows.getD i []) := by
  rcases h.is with ⟨a, c, rfl, rfl⟩ | h
  · exact absurd hl (by simp)
  · exact h
/-- A right table of costs: rows of n costs each. -/
structure Rt (n : Nat) (rows : List (List Int)) : Prop where
  len : rows.length ≤ 4
  ok : ∀ i, i < rows.length → (rows.getD i []).length = n ∧ ∀ k, k < n → 0 ≤ (rows.getD i []).getD k 0 ∧ (rows.getD i []).getD k 0 ≤ 1099511627776
/-- The most that the first k marks tell. -/
def gre (F T : List (List Int)) (v t : Nat) : Nat → Int
  | 0 => 0
  | k + 1 => max (max (gre F T v t k) (apt ((F.getD k []).getD v 0) ((F.getD k []).getD t 0))) (apt ((T.getD k []).getD t 0) ((T.getD k []).getD v 0))
end Go.Proofs.Ytefikbjjdldomaa
