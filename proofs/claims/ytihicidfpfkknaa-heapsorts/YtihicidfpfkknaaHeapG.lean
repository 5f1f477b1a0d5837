/-
  Contract: slices.Equal of pops.
-/
import Derived.Test.YtihicidfpfkknaaHeapF
namespace Go.Proofs.Ytihicidfpfkknaa
open Go.RowKit
open Hp

theorem eq_of_at {a b : List (Int × Int)} (hl : a.length = b.length) (h : ∀ i, i < a.length → at' a i = at' b i) : a = b := by
  apply List.ext_getElem hl
  intro i h1 h2
  have := h i h1
  unfold at' at this
  rw [List.getD_eq_getElem?_getD, List.getD_eq_getElem?_getD, List.getElem?_eq_getElem h1, List.getElem?_eq_getElem h2] at this
  exact this

/-- Two slices that are both there. -/
theorem SlR.some' {w : World} {v : Value} {ls : List (Int × Int)} (h : SlR w v ls) (hl : 0 < ls.length) : ∃ b off cap, v = .slice (some ⟨b, off, none⟩) ls.length cap ∧ ∀ i, i < ls.length → w.cell? ⟨b, off + i * 2, none⟩ = some (.int .i64 (at' ls i).1) ∧ w.cell? ⟨b, off + i * 2 + 1, none⟩ = some (.int .i64 (at' ls i).2) := by
  rcases h with ⟨_, _, _, rfl⟩ | ⟨b, off, cap, hv, hc⟩
  · simp at hl
  · exact ⟨b, off, cap, hv, hc⟩

set_option maxRecDepth 100000 in
set_option maxHeartbeats 4000000 in
theorem equal_zero (a a' : Option Addr) (c c' : Nat) (w : World) :
    Calls Try.prog 22 #[.slice a 0 c, .slice a' 0 c'] w fun e w' => e = .returned (.bool true) ∧ w' = w := by
  go_enter Try.func22, Try.ntmps22
  go_wp2_with fail
  go_loop [13] (fun x => x = .int .i64 0) (fun _ => 0)
  case atStart => rfl
  case round =>
    subst hrel
    go_wp2
    go_ret
    exact ⟨rfl, rfl⟩

set_option maxRecDepth 100000 in
set_option maxHeartbeats 4000000 in
theorem equal_no (a a' : Option Addr) (n m c c' : Nat) (w : World) (h : n ≠ m) :
    Calls Try.prog 22 #[.slice a n c, .slice a' m c'] w fun e w' => e = .returned (.bool false) ∧ w' = w := by
  have hne : ((n : Int) != (m : Int)) = true := by simp; omega
  go_enter Try.func22, Try.ntmps22
  go_wp2_with fail
  go_ret
  exact ⟨rfl, rfl⟩

set_option maxRecDepth 100000 in
set_option maxHeartbeats 4000000 in
theorem equal_some (b off b' off' c c' : Nat) (ls rs : List (Int × Int)) (w : World) (hn : ls.length = rs.length) (hlen : ls.length ≤ 17592186044416)
    (h1 : ∀ i, i < ls.length → w.cell? ⟨b, off + i * 2, none⟩ = some (.int .i64 (at' ls i).1) ∧ w.cell? ⟨b, off + i * 2 + 1, none⟩ = some (.int .i64 (at' ls i).2))
    (h2 : ∀ i, i < rs.length → w.cell? ⟨b', off' + i * 2, none⟩ = some (.int .i64 (at' rs i).1) ∧ w.cell? ⟨b', off' + i * 2 + 1, none⟩ = some (.int .i64 (at' rs i).2)) :
    Calls Try.prog 22 #[.slice (some ⟨b, off, none⟩) ls.length c, .slice (some ⟨b', off', none⟩) rs.length c'] w fun e w' => e = .returned (.bool (decide (ls = rs))) ∧ ∃ q, w' = w.drewN q := by
  rw [← hn]
  have H1 : Hid _ := h1
  have H2 : Hid _ := h2
  have HN : Hid (ls.length = rs.length) := hn
  clear h1 h2 hn
  go_enter Try.func22, Try.ntmps22
  go_wp2_with fail
  go_loopw [13] (fun x wr => ∃ k : Nat, x = .int .i64 k ∧ k ≤ ls.length ∧ (∀ i, i < k → at' ls i = at' rs i) ∧ ∃ q, wr = w.drewN q) (fun x _ => ls.length - (intOf x).toNat)
  case atStart => exact ⟨0, rfl, Nat.zero_le _, fun i hi => absurd hi (by omega), 0, rfl⟩
  case round =>
    obtain ⟨k, rfl, hk, he, q, rfl⟩ := hrel
    have HE : Hid _ := he
    clear he
    by_cases hlt : k < ls.length
    · have hki : (k : Int) < (ls.length : Int) := by omega
      obtain ⟨c0, c1⟩ := H1.out k hlt
      obtain ⟨d0, d1⟩ := H2.out k (by have := HN.out; omega)
      obtain ⟨x, hx⟩ : ∃ x, (at' ls k).1 = x := ⟨_, rfl⟩
      obtain ⟨y, hy⟩ : ∃ x, (at' ls k).2 = x := ⟨_, rfl⟩
      obtain ⟨z, hz⟩ : ∃ x, (at' rs k).1 = x := ⟨_, rfl⟩
      obtain ⟨u, hu⟩ : ∃ x, (at' rs k).2 = x := ⟨_, rfl⟩
      rw [hx] at c0
      rw [hy] at c1
      rw [hz] at d0
      rw [hu] at d1
      have HX : Hid _ := hx
      have HY : Hid _ := hy
      have HZ : Hid _ := hz
      have HU : Hid _ := hu
      clear hx hy hz hu
      by_cases hq : x = z ∧ y = u
      · obtain ⟨rfl, rfl⟩ := hq
        go_wp2_with fail
        go_quiet (fail)
        go_wp2
        go_roundw
        case rel =>
          refine ⟨k + 1, by go_num, by omega, fun i hi => ?_, q + nq, rfl⟩
          rcases (show i < k ∨ i = k by omega) with h | rfl
          · exact HE.out i h
          · exact Prod.ext (HX.out.trans HZ.out.symm) (HY.out.trans HU.out.symm)
        case measure => simp [intOf]; omega
      · have HF : Hid (decide (ls = rs) = false) := decide_eq_false (fun e => hq (by subst e; exact ⟨HX.out.symm.trans HZ.out, HY.out.symm.trans HU.out⟩))
        cases e1 : (x == z)
        all_goals
          cases e2 : (y == u)
        all_goals first
          | exact absurd ⟨by simpa using e1, by simpa using e2⟩ hq
          | skip
        all_goals
          clear hq
          go_wp2_with fail
          go_quiet (fail)
          go_wp2
          go_ret
          exact ⟨ret_bool HF.out.symm, q + nq, World.drewN_drewN _ _ _⟩
    · have hke : k = ls.length := by omega
      subst hke
      have HT : Hid (decide (ls = rs) = true) := decide_eq_true (eq_of_at HN.out HE.out)
      go_wp2_with fail
      go_ret
      exact ⟨ret_bool HT.out.symm, q, rfl⟩

theorem equal_any (v u : Value) (ls rs : List (Int × Int)) (w : World) (hv : SlR w v ls) (hu : SlR w u rs) (hlen : ls.length ≤ 17592186044416) :
    Calls Try.prog 22 #[v, u] w fun e w' => e = .returned (.bool (decide (ls = rs))) ∧ ∃ q, w' = w.drewN q := by
  by_cases hn : ls.length = rs.length
  · by_cases h0 : 0 < ls.length
    · obtain ⟨b, off, c, rfl, h1⟩ := hv.some' h0
      obtain ⟨b', off', c', rfl, h2⟩ := hu.some' (by omega)
      exact equal_some b off b' off' c c' ls rs w hn hlen h1 h2
    · obtain ⟨a, c, rfl⟩ := hv.val
      obtain ⟨a', c', rfl⟩ := hu.val
      have e1 : ls = [] := List.length_eq_zero_iff.1 (by omega)
      have e2 : rs = [] := List.length_eq_zero_iff.1 (by omega)
      subst e1 e2
      refine (equal_zero a a' c c' w).mono ?_
      rintro e w' ⟨rfl, rfl⟩
      exact ⟨rfl, 0, rfl⟩
  · obtain ⟨a, c, rfl⟩ := hv.val
    obtain ⟨a', c', rfl⟩ := hu.val
    refine (equal_no a a' _ _ c c' w hn).mono ?_
    rintro e w' ⟨rfl, rfl⟩
    exact ⟨ret_bool (decide_eq_false (fun e => hn (by rw [e]))).symm, 0, rfl⟩

end Go.Proofs.Ytihicidfpfkknaa
