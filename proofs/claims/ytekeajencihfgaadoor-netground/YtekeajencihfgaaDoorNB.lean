/-
  Contract: Pos.
-/
import Derived.Test.YtekeajencihfgaaDoorNA
namespace Go.Proofs.YtekeajencihfgaaDoor
open Go.RowKit
open Nm

set_option maxRecDepth 100000 in
set_option maxHeartbeats 8000000 in
theorem npos_any (n : Int) (v : Value) (es : List E) (w : World) (hv : SlE w v es) (hlen : es.length ≤ 9223372036854775807) :
    Calls Tryd.prog 10 #[.agg #[.int .i64 n, v]] w fun e w' => e = .returned (.int .i64 (nps n es)) ∧ Below w.heap.size w w' := by
  obtain ⟨a0, c0, rfl⟩ := hv.val
  have HV : Hid _ := hv
  clear hv
  by_cases hc : nck n es = 0
  · have HC : Hid _ := hc
    clear hc
    go_enter Tryd.func10, Tryd.ntmps10
    go_wp2_with fail
    have P0 : Hid _ := box2_new w n (.slice a0 es.length c0) 27
    have B0 : Hid (Below w.heap.size w (w.alloc (.cells #[.int .i64 n, .slice a0 es.length c0] 27))) := balloc (Below.refl _ _) _
    generalize w.alloc (.cells #[.int .i64 n, .slice a0 es.length c0] 27) = W0 at *
    refine (ncheck_any n _ es W0 (HV.out.below B0.out) hlen).mono ?_
    rintro e w1 ⟨rfl, b1⟩
    rw [HC.out]
    have B1 : Hid (Below w.heap.size w w1) := bthen B0.out b1
    obtain ⟨p0, p1⟩ := P0.out.below b1
    clear b1
    go_wp2_with fail
    clear p0 p1
    have V1 : Hid _ := HV.out.below B1.out
    go_loopw [14] (fun z wr => ∃ k : Nat, z = .int .i64 k ∧ k ≤ es.length ∧ (∀ i, i < k → 1 ≤ (at3 es i).2.2) ∧ Below w1.heap.size w1 wr) (fun z _ => es.length - (intOf z).toNat)
    case atStart => exact ⟨0, rfl, Nat.zero_le _, fun i hi => absurd hi (by omega), Below.refl _ _⟩
    case round =>
      obtain ⟨k, rfl, hk, he, hb⟩ := hrel
      have HE : Hid _ := he
      have HB : Hid (Below w1.heap.size w1 wr) := hb
      clear he hb
      by_cases hlt : k < es.length
      · have hki : (k : Int) < (es.length : Int) := by omega
        obtain ⟨b, off, cap, hveq, hcl⟩ := (V1.out.below HB.out).some' (by omega)
        simp only [Value.slice.injEq] at hveq
        obtain ⟨rfl, -, rfl⟩ := hveq
        obtain ⟨d0, d1, d2⟩ := hcl k hlt
        clear hcl
        obtain ⟨p, hp⟩ : ∃ p, at3 es k = p := ⟨_, rfl⟩
        rw [hp] at d0 d1 d2
        have HP : Hid _ := hp
        clear hp
        obtain ⟨x, y, z⟩ := p
        simp only at d0 d1 d2
        by_cases hz : z < 1
        · have HF : Hid _ := nps_low HC.out hlt (by rw [HP.out]; exact hz)
          go_wp2_with fail
          go_ret
          exact ⟨ret_int (by rw [HF.out]), bthen B1.out (balloc HB.out _)⟩
        · go_wp2_with fail
          go_roundw
          case rel =>
            refine ⟨k + 1, by go_num, by omega, fun i hi => ?_, balloc HB.out _⟩
            rcases (show i < k ∨ i = k by omega) with h | rfl
            · exact HE.out i h
            · rw [HP.out]; show 1 ≤ z; omega
          case measure => simp [intOf]; omega
      · have hke : k = es.length := by omega
        subst hke
        have HF : Hid _ := nps_ok HC.out HE.out
        go_wp2_with fail
        go_ret
        exact ⟨ret_int (by rw [HF.out]), bthen B1.out HB.out⟩
  · have HF : Hid _ := nps_bad hc
    have hz : (nck n es != 0) = true := by simp [hc]
    clear hc
    go_enter Tryd.func10, Tryd.ntmps10
    go_wp2_with fail
    have B0 : Hid (Below w.heap.size w (w.alloc (.cells #[.int .i64 n, .slice a0 es.length c0] 27))) := balloc (Below.refl _ _) _
    generalize w.alloc (.cells #[.int .i64 n, .slice a0 es.length c0] 27) = W0 at *
    refine (ncheck_any n _ es W0 (HV.out.below B0.out) hlen).mono ?_
    rintro e w1 ⟨rfl, b1⟩
    go_wp2_with fail
    go_ret
    exact ⟨ret_int (by rw [HF.out]), bthen B0.out b1⟩
end Go.Proofs.YtekeajencihfgaaDoor
