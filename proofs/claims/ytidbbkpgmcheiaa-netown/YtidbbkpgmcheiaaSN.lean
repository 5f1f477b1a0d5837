/-
  slices.Equal of edges that are the same; the same nets.
-/
import Derived.Test.YtidbbkpgmcheiaaNA
namespace Go.Proofs.Ytidbbkpgmcheiaa
open Go.RowKit
open Nm

set_option maxRecDepth 100000 in
set_option maxHeartbeats 4000000 in
theorem eequal_yes (v u : Value) (es : List E) (w : World) (hv : SlE w v es) (hu : SlE w u es) (hl : es.length ≤ 9223372036854775807) :
    Calls Try.prog 46 #[v, u] w fun e w' => e = .returned (.bool true) ∧ Below w.heap.size w w' := by
  obtain ⟨a, c, rfl⟩ := hv.val
  obtain ⟨a', c', rfl⟩ := hu.val
  have HV : Hid _ := hv
  have HU : Hid _ := hu
  clear hv hu
  go_enter Try.func46, Try.ntmps46
  go_wp2_with fail
  go_loopw [13] (fun x wr => ∃ k : Nat, x = .int .i64 k ∧ k ≤ es.length ∧ ∃ q, wr = w.drewN q) (fun x _ => es.length - (intOf x).toNat)
  case atStart => exact ⟨0, rfl, Nat.zero_le _, 0, rfl⟩
  case round =>
    obtain ⟨k, rfl, hk, q, rfl⟩ := hrel
    by_cases hlt : k < es.length
    · have hki : (k : Int) < (es.length : Int) := by omega
      obtain ⟨g, o, cap, hveq, hc⟩ := HV.out.some' (by omega)
      simp only [Value.slice.injEq] at hveq
      obtain ⟨rfl, -, rfl⟩ := hveq
      obtain ⟨h, o', cap', hueq, hd⟩ := HU.out.some' (by omega)
      simp only [Value.slice.injEq] at hueq
      obtain ⟨rfl, -, rfl⟩ := hueq
      obtain ⟨c0, c1, c2⟩ := hc k hlt
      obtain ⟨d0, d1, d2⟩ := hd k hlt
      clear hc hd
      generalize at3 es k = p at *
      obtain ⟨x, y, z⟩ := p
      simp only at c0 c1 c2 d0 d1 d2
      go_wp2_with fail
      go_quiet (fail)
      go_wp2
      go_roundw
      case rel => exact ⟨k + 1, by go_num, by omega, q + nq, rfl⟩
      case measure => simp [intOf]; omega
    · have hke : k = es.length := by omega
      subst hke
      go_wp2_with fail
      go_ret
      exact ⟨rfl, bdrewN (Below.refl _ _) q⟩

set_option maxRecDepth 100000 in
set_option maxHeartbeats 4000000 in
theorem sameNet_yes (n : Int) (v u : Value) (es : List E) (w : World) (hv : SlE w v es) (hu : SlE w u es) (hl : es.length ≤ 9223372036854775807) :
    Calls Try.prog 28 #[.agg #[.int .i64 n, v], .agg #[.int .i64 n, u]] w fun e w' => e = .returned (.bool true) ∧ Below w.heap.size w w' := by
  obtain ⟨a, c, rfl⟩ := hv.val
  obtain ⟨a', c', rfl⟩ := hu.val
  have HV : Hid _ := hv
  have HU : Hid _ := hu
  clear hv hu
  go_enter Try.func28, Try.ntmps28
  go_wp2_with fail
  have B1 : Hid (Below w.heap.size w ((w.alloc (.cells #[.int .i64 n, .slice a es.length c] 24)).alloc (.cells #[.int .i64 n, .slice a' es.length c'] 24))) := balloc (balloc (Below.refl _ _) _) _
  generalize (w.alloc (.cells #[.int .i64 n, .slice a es.length c] 24)).alloc (.cells #[.int .i64 n, .slice a' es.length c'] 24) = W1 at *
  refine (eequal_yes _ _ es W1 (HV.out.below B1.out) (HU.out.below B1.out) hl).mono ?_
  rintro e w2 ⟨rfl, b2⟩
  go_wp2_with fail
  go_ret
  exact ⟨rfl, bthen B1.out b2⟩

end Go.Proofs.Ytidbbkpgmcheiaa
