/-
  Plain ground as text: bytes, rows. No Go in sight.
-/
import Derived.KernelRfl
namespace Go.Proofs.YteediekpljjbpaaDoor.Pm
set_option linter.unusedSimpArgs false

/-- A cell's byte. -/
def sg (c : Int) : UInt8 := if c = 0 then 35 else UInt8.ofNat (48 + c).toNat
/-- The bytes of the first k cells, a byte 10 behind each row. -/
def pm (W : Int) (cs : List Int) : Nat → List UInt8
  | 0 => []
  | k + 1 => pm W cs k ++ (sg (cs.getD k 0) :: if (k : Int) % W = W - 1 then [10] else [])
/-- All of it. -/
def txt (W : Int) (cs : List Int) : List UInt8 := pm W cs cs.length

theorem sg_nat {c : Int} (h0 : 0 ≤ c) (h9 : c ≤ 9) : ((sg c).toNat : Int) = if c = 0 then 35 else 48 + c := by
  rcases (show c = 0 ∨ c = 1 ∨ c = 2 ∨ c = 3 ∨ c = 4 ∨ c = 5 ∨ c = 6 ∨ c = 7 ∨ c = 8 ∨ c = 9 by omega) with rfl | rfl | rfl | rfl | rfl | rfl | rfl | rfl | rfl | rfl <;> decide

theorem pm_length (W : Int) (cs : List Int) (k : Nat) : (pm W cs k).length ≤ 2 * k := by
  induction k with
  | zero => simp [pm]
  | succ k ih =>
    unfold pm
    rw [List.length_append, List.length_cons]
    split <;> simp <;> omega
theorem pm_mid {W : Int} {cs : List Int} {k : Nat} (h : ¬ ((k : Int) % W = W - 1)) : pm W cs (k + 1) = pm W cs k ++ [sg (cs.getD k 0)] := by
  rw [pm, if_neg h]
theorem pm_end {W : Int} {cs : List Int} {k : Nat} (h : (k : Int) % W = W - 1) : pm W cs (k + 1) = pm W cs k ++ [sg (cs.getD k 0)] ++ [10] := by
  rw [pm, if_pos h]; simp

/-- The first x cells of row y behind the rows ahead of it. -/
def rw_ (W : Int) (cs : List Int) (y x : Nat) : List UInt8 := pm W cs (y * W.toNat) ++ (List.range x).map (fun j => sg (cs.getD (y * W.toNat + j) 0))
theorem rw_zero (W : Int) (cs : List Int) (y : Nat) : rw_ W cs y 0 = pm W cs (y * W.toNat) := by simp [rw_]
theorem rw_succ (W : Int) (cs : List Int) (y x : Nat) : rw_ W cs y (x + 1) = rw_ W cs y x ++ [sg (cs.getD (y * W.toNat + x) 0)] := by
  unfold rw_; rw [List.range_succ, List.map_append, List.append_assoc]; rfl
theorem row_mod {W : Int} (hW : 1 ≤ W) (y x : Nat) (hx : (x : Int) < W) : ((y * W.toNat + x : Nat) : Int) % W = x := by
  have e : ((y * W.toNat + x : Nat) : Int) = (x : Int) + (y : Int) * W := by
    rw [Int.natCast_add, Int.natCast_mul, Int.toNat_of_nonneg (by omega)]; omega
  rw [e, Int.add_mul_emod_self_right, Int.emod_eq_of_lt (by omega) hx]
theorem rw_pm {W : Int} (hW : 1 ≤ W) (cs : List Int) (y x : Nat) (hx : (x : Int) < W) : rw_ W cs y x = pm W cs (y * W.toNat + x) := by
  induction x with
  | zero => exact rw_zero W cs y
  | succ x ih =>
    rw [rw_succ, ih (by omega), ← Nat.add_assoc, pm_mid]
    rw [row_mod hW y x (by omega)]; omega
theorem rw_row {W : Int} (hW : 1 ≤ W) (cs : List Int) (y : Nat) : rw_ W cs y W.toNat ++ [10] = rw_ W cs (y + 1) 0 := by
  obtain ⟨x, hx⟩ : ∃ x, W.toNat = x + 1 := ⟨W.toNat - 1, by omega⟩
  have hxW : (x : Int) = W - 1 := by omega
  have e : (y + 1) * W.toNat = y * W.toNat + x + 1 := by rw [Nat.succ_mul]; omega
  rw [rw_zero, e, pm_end (by rw [row_mod hW y x (by omega)]; exact hxW), ← rw_pm hW cs y x (by omega)]
  conv => lhs; rw [hx, rw_succ]
theorem rw_all {W H : Int} (hW : 1 ≤ W) (hH : 1 ≤ H) {cs : List Int} (hl : (cs.length : Int) = W * H) : rw_ W cs H.toNat 0 = txt W cs := by
  rw [rw_zero, txt]
  congr 1
  have : ((H.toNat * W.toNat : Nat) : Int) = W * H := by
    rw [Int.natCast_mul, Int.toNat_of_nonneg (by omega), Int.toNat_of_nonneg (by omega), Int.mul_comm]
  omega

theorem rw_length (W : Int) (cs : List Int) (y x : Nat) : (rw_ W cs y x).length ≤ 2 * (y * W.toNat) + x := by
  unfold rw_
  have := pm_length W cs (y * W.toNat)
  simp; omega
end Go.Proofs.YteediekpljjbpaaDoor.Pm
