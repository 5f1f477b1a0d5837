/-
  Contract: Within.
-/
import Derived.Test.YtahijfljpjgdlaaBA
namespace Go.Proofs.Ytahijfljpjgdlaa
open Go.RowKit

/-- Within m + 1. -/
def wi (k : Int) (m : Nat) : Nat := (IntKind.u64.wrap k).toNat % (m + 1)
theorem wi_le (k : Int) (m : Nat) : wi k m ≤ m := by
  have := Nat.mod_lt (IntKind.u64.wrap k).toNat (show 0 < m + 1 by omega)
  unfold wi; omega
set_option maxRecDepth 100000 in
set_option maxHeartbeats 4000000 in
theorem within_any (k : Int) (m : Nat) (w : World) (hn : m ≤ 100) :
    Calls Try.prog 23 #[.int .i64 k, .int .i64 ((m : Int) + 1)] w fun e w' => e = .returned (.int .i64 (wi k m)) ∧ w' = w := by
  have hw : IntKind.u64.wrap ((m : Int) + 1) = (m : Int) + 1 := by rw [IntKind.wrap_u64]; omega
  have hk0 : 0 ≤ IntKind.u64.wrap k := by rw [IntKind.wrap_u64]; omega
  have HX : Hid _ := wi_le k m
  have HE : Hid (wi k m = (IntKind.u64.wrap k).toNat % (m + 1)) := rfl
  generalize wi k m = j at *
  generalize hx : IntKind.u64.wrap k = x at *
  obtain ⟨y, rfl⟩ := Int.eq_ofNat_of_zero_le hk0
  have hmod : (y : Int).tmod ((m : Int) + 1) = (j : Int) := by rw [HE.out, Int.tmod_eq_emod_of_nonneg (by omega), Int.toNat_natCast]; rfl
  have hjm := HX.out
  have hj : IntKind.i64.wrap (j : Int) = (j : Int) := by rw [IntKind.wrap_i64]; omega
  have hju : IntKind.u64.wrap (j : Int) = (j : Int) := by rw [IntKind.wrap_u64]; omega
  have hm0 : ¬ (m : Int) + 1 = 0 := by omega
  clear hk0
  go_enter Try.func23, Try.ntmps23
  go_wp2_with fail
  go_ret
  exact ⟨rfl, rfl⟩
end Go.Proofs.Ytahijfljpjgdlaa
