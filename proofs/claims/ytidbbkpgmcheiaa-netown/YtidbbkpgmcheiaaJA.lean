/-
  Contracts: areHeights.
-/
import Derived.Test.YtidbbkpgmcheiaaNA
import Derived.Test.YtidbbkpgmcheiaaJm
namespace Go.Proofs.Ytidbbkpgmcheiaa
open Go.RowKit
open Nm Wm Dm Bm Jm

set_option maxRecDepth 100000 in
set_option maxHeartbeats 8000000 in
theorem heights_len (n : Int) (v u : Value) (es : List E) (hs : List Int) (w : World) (hv : SlE w v es) (hu : SlI w u hs) (hne : (hs.length : Int) ≠ n) :
    Calls Try.prog 58 #[.agg #[.int .i64 n, v], u] w fun e w' => e = .returned (.bool false) ∧ Below w.heap.size w w' := by
  obtain ⟨a0, c0, rfl⟩ := hv.val
  obtain ⟨a1, c1, rfl⟩ := hu.val
  clear hv hu
  go_enter Try.func58, Try.ntmps58
  have B0 : Hid (Below w.heap.size w (w.alloc (.cells #[.int .i64 n, .slice a0 es.length c0] 24))) := balloc (Below.refl _ _) _
  go_wp2_with fail
  go_ret
  exact ⟨rfl, B0.out⟩
set_option maxRecDepth 100000 in
set_option maxHeartbeats 8000000 in
theorem heights_at (N : Nat) (v u : Value) (es : List E) (hs : List Int) (w : World) (hv : SlE w v es) (hu : SlI w u hs) (hn : hs.length = N) (hl : N ≤ 64) :
    Calls Try.prog 58 #[.agg #[.int .i64 N, v], u] w fun e w' => e = .returned (.bool (hgt hs)) ∧ Below w.heap.size w w' := by
  subst hn
  obtain ⟨a0, c0, rfl⟩ := hv.val
  obtain ⟨a1, c1, rfl⟩ := hu.val
  have HU : Hid _ := hu
  clear hv hu
  go_enter Try.func58, Try.ntmps58
  have B0 : Hid (Below w.heap.size w (w.alloc (.cells #[.int .i64 hs.length, .slice a0 es.length c0] 24))) := balloc (Below.refl _ _) _
  go_wp2_with fail
  generalize w.alloc (.cells #[.int .i64 hs.length, .slice a0 es.length c0] 24) = W0 at *
  go_loopw [14] (fun z wr => ∃ k : Nat, z = .int .i64 k ∧ k ≤ hs.length ∧ (∀ i, i < k → -1000000 ≤ hs.getD i 0 ∧ hs.getD i 0 ≤ 1000000) ∧ Below w.heap.size w wr) (fun z _ => hs.length - (intOf z).toNat)
  case atStart => exact ⟨0, rfl, Nat.zero_le _, fun i hi => absurd hi (by omega), B0.out⟩
  case round =>
    obtain ⟨k, rfl, hk, hok, hb⟩ := hrel
    have HOK : Hid _ := hok
    have HB : Hid (Below w.heap.size w wr) := hb
    clear hok hb
    by_cases hlt : k < hs.length
    · have hki : (k : Int) < (hs.length : Int) := by omega
      obtain ⟨b, off, cap, hveq, hc⟩ := (HU.out.below HB.out).some' (by omega)
      simp only [Value.slice.injEq] at hveq
      obtain ⟨rfl, -, rfl⟩ := hveq
      have e0 := hc k hlt
      clear hc
      obtain ⟨x, hx⟩ : ∃ x, hs.getD k 0 = x := ⟨_, rfl⟩
      rw [hx] at e0
      have HX : Hid _ := hx
      clear hx
      by_cases h1 : x < -1000000
      · go_wp2_with fail
        go_ret
        refine ⟨?_, HB.out⟩
        rw [hgt_no hlt (by rw [HX.out]; omega)]; rfl
      · by_cases h2 : 1000000 < x
        · go_wp2_with fail
          go_ret
          refine ⟨?_, HB.out⟩
          rw [hgt_no hlt (by rw [HX.out]; omega)]; rfl
        · go_wp2_with fail
          go_roundw
          case rel =>
            refine ⟨k + 1, by go_num, by omega, fun i hi => ?_, HB.out⟩
            rcases (show i < k ∨ i = k by omega) with h | rfl
            · exact HOK.out i h
            · rw [HX.out]; omega
          case measure => simp [intOf]; omega
    · have hke : k = hs.length := by omega
      subst hke
      go_wp2_with fail
      go_ret
      refine ⟨?_, HB.out⟩
      rw [hgt_yes HOK.out]; rfl
end Go.Proofs.Ytidbbkpgmcheiaa
