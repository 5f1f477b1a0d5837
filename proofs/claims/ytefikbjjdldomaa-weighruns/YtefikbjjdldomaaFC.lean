/-
  Contracts: slices.Index and slices.Contains of numbers.
-/
import Derived.Test.YtefikbjjdldomaaRV
namespace Go.Proofs.Ytefikbjjdldomaa
open Go.RowKit
open Nm Wm Dm
attribute [local go_sem] Go.wp_at_zero Go.wp_at_succ

def ints (l : List Nat) : List Int := l.map (fun n => ((n : Nat) : Int))
theorem ints_length (l : List Nat) : (ints l).length = l.length := by simp [ints]
theorem ints_append (a b : List Nat) : ints (a ++ b) = ints a ++ ints b := by simp [ints]
theorem ints_at {l : List Nat} {i : Nat} (h : i < l.length) : (ints l).getD i 0 = ((l[i] : Nat) : Int) := by simp [ints, List.getD_eq_getElem?_getD, h]
def ix (l : List Nat) (a : Nat) : Nat := l.idxOf a
theorem ix_lt {l : List Nat} {a : Nat} (h : a ∈ l) : ix l a < l.length := List.idxOf_lt_length_of_mem h
theorem ix_get {l : List Nat} {a : Nat} (h : a ∈ l) : l[ix l a]? = some a := by
  unfold ix
  rw [List.getElem?_eq_getElem (List.idxOf_lt_length_of_mem h), List.getElem_idxOf]
/-- Where a number stands first; -1, if nowhere. -/
def ixz (l : List Nat) (a : Nat) : Int := if a ∈ l then ((ix l a : Nat) : Int) else -1
theorem ixz_in {l : List Nat} {a : Nat} (h : a ∈ l) : ixz l a = ((ix l a : Nat) : Int) := if_pos h
theorem ixz_out {l : List Nat} {a : Nat} (h : ¬ a ∈ l) : ixz l a = -1 := if_neg h
theorem ixz_rng (l : List Nat) (a : Nat) : -1 ≤ ixz l a ∧ ixz l a < l.length ∨ l.length = 0 ∧ ixz l a = -1 := by
  unfold ixz
  by_cases h : a ∈ l
  · rw [if_pos h]; have := ix_lt h; left; omega
  · rw [if_neg h]; by_cases h0 : l.length = 0
    · right; exact ⟨h0, rfl⟩
    · left; omega
theorem ix_first {l : List Nat} {a k : Nat} (hk : k < l.length) (he : l[k] = a) (hno : ∀ j (h : j < l.length), j < k → l[j] ≠ a) : ix l a = k := by
  have hm : a ∈ l := by rw [← he]; exact List.getElem_mem hk
  have h1 := ix_lt hm
  have h2 := ix_get hm
  rw [List.getElem?_eq_getElem h1] at h2
  have h3 := Option.some.inj h2
  rcases Nat.lt_trichotomy (ix l a) k with h | h | h
  · exact absurd h3 (hno _ h1 h)
  · exact h
  · unfold ix at h
    have h4 : List.idxOf a l ≤ k := by
      rw [List.idxOf]
      have := @List.not_of_lt_findIdx Nat (fun x => x == a) l k (by simpa [List.idxOf] using h)
      simp [he] at this
    omega
set_option maxRecDepth 100000 in
set_option maxHeartbeats 4000000 in
theorem index_any (v : Value) (l : List Nat) (a : Nat) (w : World) (hv : SlI w v (ints l)) (hlen : l.length ≤ 9223372036854775806) :
    Calls Try.prog 51 #[v, .int .i64 ((a : Nat) : Int)] w fun e w' => e = .returned (.int .i64 (ixz l a)) ∧ w' = w := by
  obtain ⟨a0, c0, rfl⟩ := hv.val
  rw [ints_length] at hv ⊢
  have HV : Hid _ := hv
  obtain ⟨z, hz⟩ : ∃ z, ixz l a = z := ⟨_, rfl⟩
  have HZ : Hid _ := hz
  rw [hz]
  clear hv hz
  go_enter Try.func51, Try.ntmps51
  go_wp2_with fail
  go_loopw [8] (fun z wr => ∃ k : Nat, z = .int .i64 k ∧ k ≤ l.length ∧ (∀ j (h : j < l.length), j < k → l[j] ≠ a) ∧ Hid (wr = w)) (fun z _ => l.length - (intOf z).toNat)
  case atStart => exact ⟨0, rfl, Nat.zero_le _, fun j h hj => absurd hj (by omega), rfl⟩
  case round =>
    obtain ⟨k, rfl, hk, he, hw⟩ := hrel
    have HE : Hid _ := he
    clear he
    by_cases hlt : k < l.length
    · have hki : (k : Int) < (l.length : Int) := by omega
      have HVW : Hid (SlI wr (.slice a0 l.length c0) (ints l)) := by rw [hw.out]; exact HV.out
      obtain ⟨b0, off, cap, hveq, hcl⟩ := HVW.out.some' (by rw [ints_length]; omega)
      rw [ints_length] at hveq hcl
      simp only [Value.slice.injEq] at hveq
      obtain ⟨rfl, -, rfl⟩ := hveq
      have d0 := hcl k hlt
      rw [ints_at hlt] at d0
      obtain ⟨x, hx⟩ : ∃ x, l[k] = x := ⟨_, rfl⟩
      rw [hx] at d0
      clear hcl
      by_cases hq : x = a
      · have t1 : ((a : Int) == (x : Int)) = true := by simp [hq]
        have HQ : Hid (z = (k : Int)) := by
          unfold Hid; rw [← HZ.out, ixz_in (by rw [← hq, ← hx]; exact List.getElem_mem hlt), ix_first hlt (hx.trans hq) HE.out]
        have H1 : Hid _ := hq
        have H2 : Hid _ := hx
        clear hq hx
        go_wp2_with fail
        go_ret
        exact ⟨by rw [HQ.out]; rfl, hw.out⟩
      · have t1 : ((a : Int) == (x : Int)) = false := by simp; omega
        have H1 : Hid _ := hq
        have H2 : Hid _ := hx
        clear hq hx
        go_wp2_with fail
        go_roundw
        case rel =>
          refine ⟨k + 1, by go_num, by omega, fun j h hj => ?_, hw⟩
          rcases (show j < k ∨ j = k by omega) with h2 | rfl
          · exact HE.out j h h2
          · rw [H2.out]; exact H1.out
        case measure => simp [intOf]; omega
    · have HQ : Hid (z = -1) := by
        unfold Hid; rw [← HZ.out, ixz_out]
        intro hm
        obtain ⟨j, hj, e⟩ := List.mem_iff_getElem.1 hm
        exact HE.out j hj (by omega) e
      go_wp2_with fail
      go_ret
      exact ⟨by rw [HQ.out]; rfl, hw.out⟩
set_option maxRecDepth 100000 in
set_option maxHeartbeats 4000000 in
theorem contains_any (v : Value) (l : List Nat) (a : Nat) (w : World) (hv : SlI w v (ints l)) (hlen : l.length ≤ 9223372036854775806) :
    Calls Try.prog 27 #[v, .int .i64 ((a : Nat) : Int)] w fun e w' => e = .returned (.bool (decide (a ∈ l))) ∧ w' = w := by
  obtain ⟨a0, c0, rfl⟩ := hv.val
  have HI : Hid _ := fun (_ : Unit) => index_any _ l a w hv hlen
  obtain ⟨q, hq⟩ : ∃ q, decide (a ∈ l) = q := ⟨_, rfl⟩
  have HQ : Hid (decide (0 ≤ ixz l a) = q) := by
    rw [← hq]; unfold ixz
    by_cases h : a ∈ l
    · rw [if_pos h, decide_eq_true h]; exact decide_eq_true (by omega)
    · rw [if_neg h, decide_eq_false h]; rfl
  rw [hq]
  clear hv hq
  go_enter Try.func27, Try.ntmps27
  go_wp2_with fail
  refine (HI.out ()).mono ?_
  rintro e w1 ⟨rfl, hw⟩
  have HW : Hid (w1 = w) := hw
  clear hw
  generalize ixz l a = z at *
  go_wp2_with fail
  go_ret
  exact ⟨ret_bool HQ.out, HW.out⟩
end Go.Proofs.Ytefikbjjdldomaa
