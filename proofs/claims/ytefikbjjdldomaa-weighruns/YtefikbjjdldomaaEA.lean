/-
  Contracts: heur.areCosts; slices.Min and slices.Max of numbers.
-/
import Derived.Test.YtefikbjjdldomaaLK
import Derived.Test.YtefikbjjdldomaaMx
namespace Go.Proofs.Ytefikbjjdldomaa
open Go.RowKit
open Nm Wm Dm
attribute [local go_sem ↓] Go.wp_at_zero Go.wp_at_succ

/-- A cost: from 0 to Far. -/
def isc (c : Int) : Bool := decide (0 ≤ c ∧ c ≤ 1099511627776)
/-- n costs. -/
def acs (n : Int) (l : List Int) : Bool := decide ((l.length : Int) = n) && l.all isc
theorem getD_all {l : List Int} {p : Int → Bool} : l.all p = true ↔ ∀ k, k < l.length → p (l.getD k 0) = true := by
  rw [List.all_eq_true]
  constructor
  · intro h k hk
    exact h _ (by simp [List.getD_eq_getElem?_getD, hk])
  · intro h x hx
    obtain ⟨k, hk, rfl⟩ := List.mem_iff_getElem.1 hx
    have := h k hk
    simpa [List.getD_eq_getElem?_getD, hk] using this
theorem acs_len {n : Int} {l : List Int} (h : (l.length : Int) ≠ n) : acs n l = false := by unfold acs; rw [decide_eq_false h]; rfl
theorem acs_bad {n : Int} {l : List Int} {k : Nat} (hk : k < l.length) (h : isc (l.getD k 0) = false) : acs n l = false := by
  unfold acs
  cases e : l.all isc
  · simp
  · have := getD_all.1 e k hk; rw [h] at this; cases this
theorem acs_good {n : Int} {l : List Int} (h0 : (l.length : Int) = n) (h : ∀ k, k < l.length → isc (l.getD k 0) = true) : acs n l = true := by
  unfold acs; rw [decide_eq_true h0, getD_all.2 h]; rfl
theorem acs_yes {n : Int} {l : List Int} (h : acs n l = true) : (l.length : Int) = n ∧ ∀ k, k < l.length → 0 ≤ l.getD k 0 ∧ l.getD k 0 ≤ 1099511627776 := by
  unfold acs at h
  rw [Bool.and_eq_true] at h
  exact ⟨of_decide_eq_true h.1, fun k hk => of_decide_eq_true (getD_all.1 h.2 k hk)⟩

set_option maxRecDepth 100000 in
set_option maxHeartbeats 4000000 in
theorem arecosts_any (n : Int) (v : Value) (ls : List Int) (w : World) (hv : SlI w v ls) (hlen : ls.length ≤ 9223372036854775807) :
    Calls Try.prog 64 #[v, .int .i64 n] w fun e w' => e = .returned (.bool (acs n ls)) ∧ Below w.heap.size w w' := by
  obtain ⟨a, c, rfl⟩ := hv.val
  have HV : Hid _ := hv
  clear hv
  by_cases hn : (ls.length : Int) = n
  · have HN : Hid _ := hn
    obtain ⟨m, hm⟩ : ∃ m : Nat, ls.length = m := ⟨_, rfl⟩
    have HM : Hid _ := hm
    have e0 : ((m : Int) == n) = true := by rw [← hn, hm]; simp
    have e1 : ((m : Int) != n) = false := by rw [← hn, hm]; simp
    rw [hm]
    have hml : m ≤ 9223372036854775807 := by omega
    clear hn hm
    go_enter Try.func64, Try.ntmps64
    go_wp2_with fail
    go_loopw [13] (fun z wr => ∃ k : Nat, z = .int .i64 k ∧ k ≤ m ∧ (∀ i, i < k → isc (ls.getD i 0) = true) ∧ Below w.heap.size w wr) (fun z _ => m - (intOf z).toNat)
    case atStart => exact ⟨0, rfl, Nat.zero_le _, fun i hi => absurd hi (by omega), Below.refl _ _⟩
    case round =>
      obtain ⟨k, rfl, hk, hin, hb⟩ := hrel
      have HI : Hid _ := hin
      have HB : Hid (Below w.heap.size w wr) := hb
      clear hin hb
      by_cases hlt : k < m
      · have hki : (k : Int) < (m : Int) := by omega
        obtain ⟨b1, off1, cap1, hveq, hc⟩ := (HV.out.below HB.out).some' (by have := HM.out; omega)
        rw [HM.out] at hveq
        simp only [Value.slice.injEq] at hveq
        obtain ⟨rfl, -, rfl⟩ := hveq
        have l0 := hc k (by have := HM.out; omega)
        have HBD : Hid (isc (ls.getD k 0) = false → acs n ls = false) := acs_bad (by have := HM.out; omega)
        have HGD : Hid (isc (ls.getD k 0) = true → ∀ i, i < k + 1 → isc (ls.getD i 0) = true) := fun h i hi => by
          rcases (show i < k ∨ i = k by omega) with h1 | rfl
          · exact HI.out i h1
          · exact h
        clear hc
        generalize ls.getD k 0 = x at *
        by_cases hx : 0 ≤ x ∧ x ≤ 1099511627776
        · have HG := HGD.out (decide_eq_true hx)
          have HGG : Hid _ := HG
          obtain ⟨x1, x2⟩ := hx
          clear HG HGD HBD
          have x3 : ¬ x < 0 := by omega
          have x4 : ¬ 1099511627776 < x := by omega
          go_wp2_with fail
          go_roundw
          case rel => exact ⟨k + 1, by go_num, by omega, HGG.out, HB.out⟩
          case measure => simp [intOf]; omega
        · have HF : Hid _ := HBD.out (decide_eq_false hx)
          clear HGD HBD
          by_cases x1 : x < 0
          · clear hx
            go_wp2_with fail
            go_ret
            exact ⟨ret_bool HF.out.symm, HB.out⟩
          · have x2 : 1099511627776 < x := by omega
            clear hx
            go_wp2_with fail
            go_ret
            exact ⟨ret_bool HF.out.symm, HB.out⟩
      · obtain rfl : k = m := by omega
        have HF : Hid (acs n ls = true) := acs_good HN.out (fun i hi => HI.out i (by have := HM.out; omega))
        go_wp2_with fail
        go_ret
        exact ⟨ret_bool HF.out.symm, HB.out⟩
  · have HF : Hid _ := acs_len hn
    have e1 : (((ls.length : Nat) : Int) != n) = true := by simp [bne]; exact hn
    clear hn
    go_enter Try.func64, Try.ntmps64
    go_wp2_with fail
    go_ret
    exact ⟨ret_bool HF.out.symm, Below.refl _ _⟩
end Go.Proofs.Ytefikbjjdldomaa
