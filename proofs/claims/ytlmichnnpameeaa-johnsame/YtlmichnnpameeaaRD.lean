/-
  slices.Equal of truth values that are the same; the same tables of them.
-/
import Derived.Test.YtlmichnnpameeaaFB
namespace Go.Proofs.Ytlmichnnpameeaa
open Go.RowKit
open Nm

set_option maxRecDepth 100000 in
set_option maxHeartbeats 4000000 in
theorem bequal_yes (G H N : Nat) (d d' : Nat → Bool) (w : World) (hu : Uv 4 encb w G N d) (hv : Uv 4 encb w H N d') (he : ∀ i, i < N → d' i = d i) (hl : N ≤ 64) :
    Calls Try.prog 17 #[.slice (some ⟨G, 0, none⟩) N N, .slice (some ⟨H, 0, none⟩) N N] w fun e w' => e = .returned (.bool true) ∧ Below w.heap.size w w' := by
  have HU : Hid _ := hu
  have HV : Hid _ := hv
  have HE : Hid _ := he
  clear hu hv he
  go_enter Try.func17, Try.ntmps17
  go_wp2_with fail
  go_loopw [13] (fun x wr => ∃ k : Nat, x = .int .i64 k ∧ k ≤ N ∧ ∃ q, wr = w.drewN q) (fun x _ => N - (intOf x).toNat)
  case atStart => exact ⟨0, rfl, Nat.zero_le _, 0, rfl⟩
  case round =>
    obtain ⟨k, rfl, hk, q, rfl⟩ := hrel
    by_cases hlt : k < N
    · have hki : (k : Int) < (N : Int) := by omega
      obtain ⟨c0, -⟩ := HU.out.cell k hlt
      obtain ⟨d0, -⟩ := HV.out.cell k hlt
      rw [HE.out k hlt] at d0
      generalize d k = p at *
      go_wp2_with fail
      go_quiet (fail)
      go_wp2
      go_roundw
      case rel => exact ⟨k + 1, by go_num, by omega, q + nq, rfl⟩
      case measure => simp [intOf]; omega
    · have hke : k = N := by omega
      subst hke
      go_wp2_with fail
      go_ret
      exact ⟨rfl, bdrewN (Below.refl _ _) q⟩
end Go.Proofs.Ytlmichnnpameeaa
