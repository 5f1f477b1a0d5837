/-
  Contract: slices.Reverse of numbers.
-/
import Derived.Test.YtefikbjjdldomaaRV
namespace Go.Proofs.Ytefikbjjdldomaa
open Go.RowKit
open Nm
attribute [local go_sem ↓] Go.wp_at_zero Go.wp_at_succ

set_option maxRecDepth 100000 in
set_option maxHeartbeats 8000000 in
theorem reverse_any (g cap : Nat) (l : List Int) (w : World) (h : Rw w g cap l) (hl : l.length ≤ 35184372087808) :
    Calls Try.prog 87 #[.slice (some ⟨g, 0, none⟩) l.length cap] w fun e w' => e = .returned (.tuple #[]) ∧ Rw w' g cap l.reverse ∧ w.grownBy w' (some g) := by
  have HR : Hid _ := h
  clear h
  go_enter Try.func87, Try.ntmps87
  go_wp2_with fail
  go_loopw [2, 3] (fun z1 z2 wr => ∃ (k : Nat) (r : List Int), z1 = .int .i64 k ∧ z2 = .int .i64 ((l.length : Int) - 1 - k) ∧ k ≤ l.length ∧ Sw l r k ∧ Rw wr g cap r ∧ w.grownBy wr (some g)) (fun z1 _ _ => l.length - (intOf z1).toNat)
  case atStart => exact ⟨0, l, rfl, by go_num, Nat.zero_le _, sw_start l, HR.out, grown_refl _ _⟩
  case round =>
    obtain ⟨k, r, rfl, rfl, hk, hs, hr, hg⟩ := hrel
    have HS : Hid _ := hs
    have HW : Hid _ := hr
    have HG : Hid _ := hg
    have hrl := hs.1
    clear hs hg
    by_cases hlt : (k : Int) < (l.length : Int) - 1 - k
    · obtain ⟨j, hj⟩ : ∃ j : Nat, j + k + 1 = l.length := ⟨l.length - 1 - k, by omega⟩
      have hji : (l.length : Int) - 1 - (k : Int) = (j : Int) := by omega
      have hkj : (k : Int) < (j : Int) := by omega
      have hjl : (j : Int) < (l.length : Int) := by omega
      have hkl : (k : Int) < (l.length : Int) := by omega
      obtain ⟨c0, f0⟩ := hr.cell k (by omega)
      obtain ⟨c1, f1⟩ := hr.cell j (by omega)
      have HN : Hid _ := sw_next HS.out hj (by omega)
      have HP : Hid _ := (hr.put k (r.getD j 0)).put j (r.getD k 0)
      obtain ⟨x, hx⟩ : ∃ x, r.getD k 0 = x := ⟨_, rfl⟩
      obtain ⟨y, hy⟩ : ∃ y, r.getD j 0 = y := ⟨_, rfl⟩
      rw [hx, hy] at HN HP
      rw [hx] at c0
      rw [hy] at c1
      have HJ : Hid _ := hj
      have hne : k ≠ j := by omega
      clear hx hy hr hj hrl hlt
      rw [hji]
      clear hji
      go_wp2_with fail
      go_region
      go_wp2_with fail
      go_roundw
      case rel =>
        exact ⟨k + 1, _, by go_num, by have := HJ.out; go_num, by omega, HN.out, HP.out.frame rfl, grown_trans HG.out (grown_drew (grown_setCell (grown_setCell (grown_refl _ _))))⟩
      case measure => simp [intOf]; omega
    · have HF : Hid _ := sw_end HS.out (by omega)
      go_wp2_with fail
      go_end0
      exact ⟨rfl, by rw [← HF.out]; exact HW.out, HG.out⟩
end Go.Proofs.Ytefikbjjdldomaa

