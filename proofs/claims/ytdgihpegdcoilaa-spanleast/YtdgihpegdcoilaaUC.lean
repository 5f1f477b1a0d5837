/-
  Contracts: check, and its twin in the document's answer.
-/
import Derived.Test.YtdgihpegdcoilaaUB
namespace Go.Proofs.Ytdgihpegdcoilaa.Un
open Go.RowKit
open Uf

/-- Both of the pair are numbers below n. -/
def inp (n : Int) (p : Int × Int) : Bool := inb p.1 n && inb p.2 n
/-- What is wrong with n and the pairs. -/
def chk (n : Int) (ls : List (Int × Int)) : Int := if n < 0 ∨ 64 < n then 1 else if 600 < ls.length then 2 else if ls.all (inp n) = true then 0 else 1

theorem chk_n {n : Int} (ls : List (Int × Int)) (h : n < 0 ∨ 64 < n) : chk n ls = 1 := by unfold chk; rw [if_pos h]
theorem chk_len {n : Int} {ls : List (Int × Int)} (h : ¬ (n < 0 ∨ 64 < n)) (h2 : 600 < ls.length) : chk n ls = 2 := by unfold chk; rw [if_neg h, if_pos h2]
theorem chk_bad {n : Int} {ls : List (Int × Int)} (h : ¬ (n < 0 ∨ 64 < n)) (h2 : ¬ 600 < ls.length) {k : Nat} (hk : k < ls.length) (h3 : inp n (at' ls k) = false) : chk n ls = 1 := by
  unfold chk; rw [if_neg h, if_neg h2, if_neg]
  intro h4
  rw [List.all_eq_true] at h4
  have := h4 _ (at_mem ls k hk)
  rw [h3] at this; cases this
theorem chk_good {n : Int} {ls : List (Int × Int)} (h : ¬ (n < 0 ∨ 64 < n)) (h2 : ¬ 600 < ls.length) (h3 : ∀ k, k < ls.length → inp n (at' ls k) = true) : chk n ls = 0 := by
  unfold chk; rw [if_neg h, if_neg h2, if_pos]
  rw [List.all_eq_true]
  intro p hp
  obtain ⟨k, hk, rfl⟩ := List.mem_iff_getElem.1 hp
  have := h3 k hk
  unfold at' at this
  rwa [List.getD_eq_getElem?_getD, List.getElem?_eq_getElem hk] at this
theorem chk_zero {n : Int} {ls : List (Int × Int)} (h : chk n ls = 0) : 0 ≤ n ∧ n ≤ 64 ∧ ls.length ≤ 600 ∧ Ok n.toNat ls := by
  unfold chk at h
  split at h
  · cases h
  · split at h
    · cases h
    · split at h
      · rename_i h1 h2 h3
        refine ⟨by omega, by omega, by omega, fun p hp => ?_⟩
        rw [List.all_eq_true] at h3
        have := h3 p hp
        unfold inp at this
        rw [Bool.and_eq_true] at this
        have k1 := inb_true this.1
        have k2 := inb_true this.2
        omega
      · cases h

theorem inp_one {n x y : Int} {b c : Bool} (h1 : inb x n = b) (h2 : inb y n = c) : inp n (x, y) = (b && c) := by unfold inp; rw [h1, h2]

theorem below_at (x n : Int) (b : Bool) (w : World) (h : inb x n = b) :
    Calls Try.prog 51 #[.int .i64 x, .int .i64 n] w fun e w' => e = .returned (.bool b) ∧ w' = w := by
  have := below_any x n w; rw [h] at this; exact this

set_option maxRecDepth 100000 in
set_option maxHeartbeats 4000000 in
theorem check_any (n : Int) (v : Value) (ls : List (Int × Int)) (w : World) (hv : SlR w v ls) (hlen : ls.length ≤ 8796093022208) :
    Calls Try.prog 33 #[.int .i64 n, v] w fun e w' => e = .returned (.int .i64 (chk n ls)) ∧ Below w.heap.size w w' := by
  obtain ⟨a0, c0, rfl⟩ := hv.val
  have HV : Hid _ := hv
  clear hv
  by_cases h1 : n < 0
  · have HC : Hid (chk n ls = 1) := chk_n ls (.inl h1)
    go_enter Try.func33, Try.ntmps33
    go_wp2_with fail
    go_ret
    exact ⟨ret_int HC.out.symm, Below.refl _ _⟩
  by_cases h2 : 64 < n
  · have HC : Hid (chk n ls = 1) := chk_n ls (.inr h2)
    go_enter Try.func33, Try.ntmps33
    go_wp2_with fail
    go_ret
    exact ⟨ret_int HC.out.symm, Below.refl _ _⟩
  have h12 : ¬ (n < 0 ∨ 64 < n) := by omega
  by_cases h3 : 600 < ls.length
  · have HC : Hid (chk n ls = 2) := chk_len h12 h3
    have h3' : (600 : Int) < (ls.length : Int) := by omega
    go_enter Try.func33, Try.ntmps33
    go_wp2_with fail
    go_ret
    exact ⟨ret_int HC.out.symm, Below.refl _ _⟩
  have HN : Hid (¬ (n < 0 ∨ 64 < n)) := h12
  have HL : Hid (¬ 600 < ls.length) := h3
  have h3' : ¬ ((600 : Int) < (ls.length : Int)) := by omega
  clear h12 h3
  go_enter Try.func33, Try.ntmps33
  go_wp2_with fail
  go_loopw [18] (fun x wr => ∃ k : Nat, x = .int .i64 k ∧ k ≤ ls.length ∧ (∀ i, i < k → inp n (at' ls i) = true) ∧ Below w.heap.size w wr) (fun x _ => ls.length - (intOf x).toNat)
  case atStart => exact ⟨0, rfl, Nat.zero_le _, fun i hi => absurd hi (by omega), Below.refl _ _⟩
  case round =>
    obtain ⟨k, rfl, hk, hin, hb⟩ := hrel
    have HI : Hid _ := hin
    have HB : Hid (Below w.heap.size w wr) := hb
    by_cases hlt : k < ls.length
    · have hki : (k : Int) < (ls.length : Int) := by omega
      obtain ⟨b, off, cap, hveq, hc⟩ := HV.out.some' (by omega)
      simp only [Value.slice.injEq] at hveq
      obtain ⟨rfl, -, rfl⟩ := hveq
      obtain ⟨c0, c1⟩ := hc k hlt
      clear hc
      have d0 := kept hb c0
      have d1 := kept hb c1
      obtain ⟨p, hp⟩ : ∃ x, at' ls k = x := ⟨_, rfl⟩
      rw [hp] at d0 d1
      obtain ⟨x, y⟩ := p
      simp only at d0 d1
      have HP : Hid _ := hp
      clear hp c0 c1 hin hb
      cases e1 : inb x n
      · have HC : Hid (chk n ls = 1) := chk_bad HN.out HL.out hlt (by rw [HP.out, inp_one e1 rfl]; rfl)
        have E1 : Hid _ := e1
        clear e1
        go_wp2_with fail
        refine (below_at _ _ _ _ E1.out).mono ?_
        rintro e w' ⟨rfl, rfl⟩
        go_wp2_with fail
        go_ret
        exact ⟨ret_int HC.out.symm, balloc HB.out _⟩
      · cases e2 : inb y n
        · have HC : Hid (chk n ls = 1) := chk_bad HN.out HL.out hlt (by rw [HP.out, inp_one e1 e2]; rfl)
          have E1 : Hid _ := e1
          have E2 : Hid _ := e2
          clear e1 e2
          go_wp2_with fail
          refine (below_at _ _ _ _ E1.out).mono ?_
          rintro e w' ⟨rfl, rfl⟩
          go_wp2_with fail
          refine (below_at _ _ _ _ E2.out).mono ?_
          rintro e w' ⟨rfl, rfl⟩
          go_wp2_with fail
          go_ret
          exact ⟨ret_int HC.out.symm, balloc HB.out _⟩
        · have HK : Hid (inp n (at' ls k) = true) := by rw [HP.out, inp_one e1 e2]; rfl
          have E1 : Hid _ := e1
          have E2 : Hid _ := e2
          clear e1 e2
          go_wp2_with fail
          refine (below_at _ _ _ _ E1.out).mono ?_
          rintro e w' ⟨rfl, rfl⟩
          go_wp2_with fail
          refine (below_at _ _ _ _ E2.out).mono ?_
          rintro e w' ⟨rfl, rfl⟩
          go_wp2_with fail
          go_roundw
          case rel =>
            refine ⟨k + 1, by go_num, by omega, fun i hi => ?_, balloc HB.out _⟩
            rcases (show i < k ∨ i = k by omega) with h | rfl
            · exact HI.out i h
            · exact HK.out
          case measure => simp [intOf]; omega
    · have hke : k = ls.length := by omega
      subst hke
      have HC : Hid (chk n ls = 0) := chk_good HN.out HL.out HI.out
      clear hin hb
      go_wp2_with fail
      go_ret
      exact ⟨ret_int HC.out.symm, HB.out⟩
end Go.Proofs.Ytdgihpegdcoilaa.Un
