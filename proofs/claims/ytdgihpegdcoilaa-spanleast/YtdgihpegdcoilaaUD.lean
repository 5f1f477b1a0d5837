/-
  Contract: the document's look at n and the pairs.
-/
import Derived.Test.YtdgihpegdcoilaaUC
namespace Go.Proofs.Ytdgihpegdcoilaa.Un
open Go.RowKit
open Uf

theorem inp_mk {n x y : Int} (h : 0 ≤ x ∧ x < n ∧ 0 ≤ y ∧ y < n) : inp n (x, y) = true := by
  unfold inp inb; rw [decide_eq_true ⟨h.1, h.2.1⟩, decide_eq_true ⟨h.2.2.1, h.2.2.2⟩]; rfl
theorem inp_no {n x y : Int} (h : ¬ (0 ≤ x ∧ x < n ∧ 0 ≤ y ∧ y < n)) : inp n (x, y) = false := by
  cases e : inp n (x, y)
  · rfl
  · unfold inp at e
    rw [Bool.and_eq_true] at e
    have k1 := inb_true e.1
    have k2 := inb_true e.2
    simp only at k1 k2
    exact absurd ⟨k1.1, k1.2, k2.1, k2.2⟩ h

set_option maxRecDepth 100000 in
set_option maxHeartbeats 4000000 in
theorem pairs_any (n : Int) (v : Value) (ls : List (Int × Int)) (w : World) (hv : SlR w v ls) (hlen : ls.length ≤ 8796093022208) :
    Calls Try.prog 14 #[.int .i64 n, v] w fun e w' => e = .returned (.int .i64 (chk n ls)) ∧ Below w.heap.size w w' := by
  obtain ⟨a0, c0, rfl⟩ := hv.val
  have HV : Hid _ := hv
  clear hv
  by_cases h1 : n < 0
  · have HC : Hid (chk n ls = 1) := chk_n ls (.inl h1)
    go_enter Try.func14, Try.ntmps14
    go_wp2_with fail
    go_ret
    exact ⟨ret_int HC.out.symm, Below.refl _ _⟩
  by_cases h2 : 64 < n
  · have HC : Hid (chk n ls = 1) := chk_n ls (.inr h2)
    go_enter Try.func14, Try.ntmps14
    go_wp2_with fail
    go_ret
    exact ⟨ret_int HC.out.symm, Below.refl _ _⟩
  have h12 : ¬ (n < 0 ∨ 64 < n) := by omega
  by_cases h3 : 600 < ls.length
  · have HC : Hid (chk n ls = 2) := chk_len h12 h3
    have h3' : (600 : Int) < (ls.length : Int) := by omega
    go_enter Try.func14, Try.ntmps14
    go_wp2_with fail
    go_ret
    exact ⟨ret_int HC.out.symm, Below.refl _ _⟩
  have HN : Hid (¬ (n < 0 ∨ 64 < n)) := h12
  have HL : Hid (¬ 600 < ls.length) := h3
  have h3' : ¬ ((600 : Int) < (ls.length : Int)) := by omega
  clear h12 h3
  go_enter Try.func14, Try.ntmps14
  go_wp2_with fail
  go_loopw [18] (fun x wr => ∃ k : Nat, x = .int .i64 k ∧ k ≤ ls.length ∧ (∀ i, i < k → inp n (at' ls i) = true) ∧ Below w.heap.size w wr) (fun x _ => ls.length - (intOf x).toNat)
  case atStart => exact ⟨0, rfl, Nat.zero_le _, fun i hi => absurd hi (by omega), Below.refl _ _⟩
  case round =>
    obtain ⟨k, rfl, hk, hin, hb⟩ := hrel
    have HI : Hid _ := hin
    have HB : Hid (Below w.heap.size w wr) := hb
    by_cases hlt : k < ls.length
    · have hki : (k : Int) < (ls.length : Int) := by omega
      obtain ⟨b, off, cap, hveq, hc⟩ := HV.out.some' (by omega)
      simp only [Value.slice.injEq] at hveq
      obtain ⟨rfl, -, rfl⟩ := hveq
      obtain ⟨c0, c1⟩ := hc k hlt
      clear hc
      have d0 := kept hb c0
      have d1 := kept hb c1
      obtain ⟨p, hp⟩ : ∃ x, at' ls k = x := ⟨_, rfl⟩
      rw [hp] at d0 d1
      obtain ⟨x, y⟩ := p
      simp only at d0 d1
      have HP : Hid _ := hp
      clear hp c0 c1 hin hb
      by_cases hok : 0 ≤ x ∧ x < n ∧ 0 ≤ y ∧ y < n
      · have HK : Hid (inp n (at' ls k) = true) := by rw [HP.out]; exact inp_mk hok
        obtain ⟨o1, o2, o3, o4⟩ := hok
        have HG : Hid (∀ i, i < k + 1 → inp n (at' ls i) = true) := fun i hi => by
          rcases (show i < k ∨ i = k by omega) with h | rfl
          · exact HI.out i h
          · exact HK.out
        rcases (show x < y ∨ y < x ∨ x = y by omega) with h | h | h
        · have h' : ¬ y < x := by omega
          go_wp2_with fail
          go_roundw
          case rel => exact ⟨k + 1, by go_num, by omega, HG.out, balloc HB.out _⟩
          case measure => simp [intOf]; omega
        · have h' : ¬ x < y := by omega
          go_wp2_with fail
          go_roundw
          case rel => exact ⟨k + 1, by go_num, by omega, HG.out, balloc HB.out _⟩
          case measure => simp [intOf]; omega
        · subst h
          go_wp2_with fail
          go_roundw
          case rel => exact ⟨k + 1, by go_num, by omega, HG.out, balloc HB.out _⟩
          case measure => simp [intOf]; omega
      · have HC : Hid (chk n ls = 1) := chk_bad HN.out HL.out hlt (by rw [HP.out]; exact inp_no hok)
        rcases (show x < y ∨ y < x ∨ x = y by omega) with h | h | h
        · have h' : ¬ y < x := by omega
          by_cases m : x < 0
          · clear hok
            go_wp2_with fail
            go_ret
            exact ⟨ret_int HC.out.symm, balloc HB.out _⟩
          · have m2 : n ≤ y := by omega
            clear hok
            go_wp2_with fail
            go_ret
            exact ⟨ret_int HC.out.symm, balloc HB.out _⟩
        · have h' : ¬ x < y := by omega
          by_cases m : y < 0
          · clear hok
            go_wp2_with fail
            go_ret
            exact ⟨ret_int HC.out.symm, balloc HB.out _⟩
          · have m2 : n ≤ x := by omega
            clear hok
            go_wp2_with fail
            go_ret
            exact ⟨ret_int HC.out.symm, balloc HB.out _⟩
        · subst h
          by_cases m : x < 0
          · clear hok
            go_wp2_with fail
            go_ret
            exact ⟨ret_int HC.out.symm, balloc HB.out _⟩
          · have m2 : n ≤ x := by omega
            clear hok
            go_wp2_with fail
            go_ret
            exact ⟨ret_int HC.out.symm, balloc HB.out _⟩
    · have hke : k = ls.length := by omega
      subst hke
      have HC : Hid (chk n ls = 0) := chk_good HN.out HL.out HI.out
      clear hin hb
      go_wp2_with fail
      go_ret
      exact ⟨ret_int HC.out.symm, HB.out⟩
end Go.Proofs.Ytdgihpegdcoilaa.Un
