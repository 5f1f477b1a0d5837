/-
  Contract: a number within a bound.
-/
import Derived.Test.YtkbebdanpgaehaaBA
namespace Go.Proofs.Ytkbebdanpgaehaa
open Go.RowKit
attribute [local go_sem ↓] Go.wp_at_zero Go.wp_at_succ

/-- Within m. -/
def wi (k : Int) (m : Nat) : Nat := (IntKind.u64.wrap k).toNat % m
theorem wi_lt (k : Int) {m : Nat} (h : 1 ≤ m) : wi k m < m := Nat.mod_lt _ (by omega)
set_option maxRecDepth 100000 in
set_option maxHeartbeats 4000000 in
theorem within_any (k : Int) (m : Nat) (w : World) (h1 : 1 ≤ m) (hn : m ≤ 64) :
    Calls Try.prog 24 #[.int .i64 k, .int .i64 m] w fun e w' => e = .returned (.int .i64 (wi k m)) ∧ w' = w := by
  have hw : IntKind.u64.wrap (m : Int) = (m : Int) := by rw [IntKind.wrap_u64]; omega
  have hk0 : 0 ≤ IntKind.u64.wrap k := by rw [IntKind.wrap_u64]; omega
  have HX : Hid _ := wi_lt k h1
  have HE : Hid (wi k m = (IntKind.u64.wrap k).toNat % m) := rfl
  generalize wi k m = j at *
  generalize hx : IntKind.u64.wrap k = x at *
  obtain ⟨y, rfl⟩ := Int.eq_ofNat_of_zero_le hk0
  have hmod : (y : Int).tmod (m : Int) = (j : Int) := by rw [HE.out, Int.tmod_eq_emod_of_nonneg (by omega), Int.toNat_natCast]; rfl
  have hjm := HX.out
  have hj : IntKind.i64.wrap (j : Int) = (j : Int) := by rw [IntKind.wrap_i64]; omega
  have hju : IntKind.u64.wrap (j : Int) = (j : Int) := by rw [IntKind.wrap_u64]; omega
  have hm0 : ¬ (m : Int) = 0 := by omega
  clear hk0
  go_enter Try.func24, Try.ntmps24
  go_wp2_with fail
  go_ret
  exact ⟨rfl, rfl⟩

end Go.Proofs.Ytkbebdanpgaehaa
