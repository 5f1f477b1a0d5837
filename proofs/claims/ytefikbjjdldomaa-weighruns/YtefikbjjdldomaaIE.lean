/-
  slices.Equal of numbers that are the same.
-/
import Derived.Test.YtefikbjjdldomaaBA
namespace Go.Proofs.Ytefikbjjdldomaa
open Go.RowKit
open Nm

set_option maxRecDepth 100000 in
set_option maxHeartbeats 4000000 in
theorem iequal_yes (v u : Value) (cs : List Int) (w : World) (hv : SlI w v cs) (hu : SlI w u cs) (hl : cs.length ≤ 9223372036854775807) :
    Calls Try.prog 25 #[v, u] w fun e w' => e = .returned (.bool true) ∧ Below w.heap.size w w' := by
  obtain ⟨a, c, rfl⟩ := hv.val
  obtain ⟨a', c', rfl⟩ := hu.val
  have HV : Hid _ := hv
  have HU : Hid _ := hu
  clear hv hu
  go_enter Try.func25, Try.ntmps25
  go_wp2_with fail
  go_loopw [13] (fun x wr => ∃ k : Nat, x = .int .i64 k ∧ k ≤ cs.length ∧ ∃ q, wr = w.drewN q) (fun x _ => cs.length - (intOf x).toNat)
  case atStart => exact ⟨0, rfl, Nat.zero_le _, 0, rfl⟩
  case round =>
    obtain ⟨k, rfl, hk, q, rfl⟩ := hrel
    by_cases hlt : k < cs.length
    · have hki : (k : Int) < (cs.length : Int) := by omega
      obtain ⟨g, o, cap, hveq, hc⟩ := HV.out.some' (by omega)
      simp only [Value.slice.injEq] at hveq
      obtain ⟨rfl, -, rfl⟩ := hveq
      obtain ⟨h, o', cap', hueq, hd⟩ := HU.out.some' (by omega)
      simp only [Value.slice.injEq] at hueq
      obtain ⟨rfl, -, rfl⟩ := hueq
      have c0 := hc k hlt
      have d0 := hd k hlt
      clear hc hd
      generalize cs.getD k 0 = p at *
      go_wp2_with fail
      go_quiet (fail)
      go_wp2
      go_roundw
      case rel => exact ⟨k + 1, by go_num, by omega, q + nq, rfl⟩
      case measure => simp [intOf]; omega
    · have hke : k = cs.length := by omega
      subst hke
      go_wp2_with fail
      go_ret
      exact ⟨rfl, bdrewN (Below.refl _ _) q⟩
end Go.Proofs.Ytefikbjjdldomaa
