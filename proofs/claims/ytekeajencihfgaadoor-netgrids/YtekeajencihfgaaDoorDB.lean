/-
  Contract: the document's look at ground.
-/
import Derived.Test.YtekeajencihfgaaDoorDA
namespace Go.Proofs.YtekeajencihfgaaDoor
open Go.RowKit
open Gm

theorem side_false {n : Int} (h : n < 1 ∨ 8 < n) : side n = false := decide_eq_false (by omega)
theorem side_yes {n : Int} (h1 : 1 ≤ n) (h2 : n ≤ 8) : side n = true := decide_eq_true ⟨h1, h2⟩

set_option maxRecDepth 100000 in
set_option maxHeartbeats 4000000 in
theorem rgrid_any (W H : Int) (v : Value) (cs : List Int) (w : World) (hv : SlI w v cs) (hlen : cs.length ≤ 9223372036854775807) :
    Calls Tryd.prog 6 #[.agg #[.int .i64 W, .int .i64 H, v]] w fun e w' => e = .returned (.int .i64 (gchk W H cs)) ∧ Below w.heap.size w w' := by
  obtain ⟨a0, c0, rfl⟩ := hv.val
  have HV : Hid _ := hv
  clear hv
  by_cases hc : W < 1
  · have HC : Hid (gchk W H cs = 1) := gchk_side cs (.inl (side_false (.inl hc)))
    go_enter Tryd.func6, Tryd.ntmps6
    go_wp2_with fail
    go_ret
    exact ⟨ret_int HC.out.symm, balloc (Below.refl _ _) _⟩
  have gW1 : ¬ (W < 1) := hc
  clear hc
  by_cases hc : H < 1
  · have HC : Hid (gchk W H cs = 1) := gchk_side cs (.inr (side_false (.inl hc)))
    go_enter Tryd.func6, Tryd.ntmps6
    go_wp2_with fail
    go_ret
    exact ⟨ret_int HC.out.symm, balloc (Below.refl _ _) _⟩
  have gH1 : ¬ (H < 1) := hc
  clear hc
  by_cases hc : 8 < W
  · have HC : Hid (gchk W H cs = 1) := gchk_side cs (.inl (side_false (.inr hc)))
    go_enter Tryd.func6, Tryd.ntmps6
    go_wp2_with fail
    go_ret
    exact ⟨ret_int HC.out.symm, balloc (Below.refl _ _) _⟩
  have g8W : ¬ (8 < W) := hc
  clear hc
  by_cases hc : 8 < H
  · have HC : Hid (gchk W H cs = 1) := gchk_side cs (.inr (side_false (.inr hc)))
    go_enter Tryd.func6, Tryd.ntmps6
    go_wp2_with fail
    go_ret
    exact ⟨ret_int HC.out.symm, balloc (Below.refl _ _) _⟩
  have g8H : ¬ (8 < H) := hc
  clear hc
  have w1 : 1 ≤ W := by omega
  have w8 : W ≤ 8 := by omega
  have h1 : 1 ≤ H := by omega
  have h8 : H ≤ 8 := by omega
  obtain ⟨p1, p2⟩ := prod_le w1 w8 h1 h8
  have E1 : Hid _ := side_yes w1 w8
  have E2 : Hid _ := side_yes h1 h8
  by_cases hl : (cs.length : Int) = W * H
  · have HL : Hid _ := hl
    have hne : ((cs.length : Int) != W * H) = false := by simp [hl]
    clear hl
    go_enter Tryd.func6, Tryd.ntmps6
    go_wp2_with fail
    obtain ⟨W1, hW1⟩ : ∃ W1, W1 = w.alloc (.cells #[.int .i64 W, .int .i64 H, .slice a0 cs.length c0] 24) := ⟨_, rfl⟩
    have HV1 : Hid (SlI W1 (.slice a0 cs.length c0) cs) := by rw [hW1]; exact HV.out.below (balloc (Below.refl _ _) _)
    have HB1 : Hid (Below w.heap.size w W1) := by rw [hW1]; exact balloc (Below.refl _ _) _
    rw [← hW1]
    clear hW1 HV
    go_loopw [35] (fun x wr => ∃ k : Nat, x = .int .i64 k ∧ k ≤ cs.length ∧ (∀ i, i < k → okc (cs.getD i 0) = true) ∧ wr = W1) (fun x _ => cs.length - (intOf x).toNat)
    case atStart => exact ⟨0, rfl, Nat.zero_le _, fun i hi => absurd hi (by omega), rfl⟩
    case round =>
      obtain ⟨k, rfl, hk, hin, rfl⟩ := hrel
      have HI : Hid _ := hin
      clear hin
      by_cases hlt : k < cs.length
      · have hki : (k : Int) < (cs.length : Int) := by omega
        obtain ⟨b, off, cap, hveq, hc⟩ := HV1.out.some' (by omega)
        simp only [Value.slice.injEq] at hveq
        obtain ⟨rfl, -, rfl⟩ := hveq
        have d0 := hc k hlt
        clear hc
        obtain ⟨x, hx⟩ : ∃ x, cs.getD k 0 = x := ⟨_, rfl⟩
        rw [hx] at d0
        have HX : Hid _ := hx
        clear hx
        by_cases hok : 0 ≤ x ∧ x ≤ 9
        · have HK : Hid (okc (cs.getD k 0) = true) := by rw [HX.out]; exact decide_eq_true hok
          obtain ⟨o1, o2⟩ := hok
          go_wp2_with fail
          go_roundw
          case rel =>
            refine ⟨k + 1, by go_num, by omega, fun i hi => ?_, trivial⟩
            rcases (show i < k ∨ i = k by omega) with h | rfl
            · exact HI.out i h
            · exact HK.out
          case measure => simp [intOf]; omega
        · have HC : Hid (gchk W H cs = 4) := gchk_bad E1.out E2.out HL.out hlt (by rw [HX.out]; exact decide_eq_false hok)
          by_cases o1 : x < 0
          · clear hok
            go_wp2_with fail
            go_ret
            exact ⟨ret_int HC.out.symm, HB1.out⟩
          · have o2 : 9 < x := by omega
            clear hok
            go_wp2_with fail
            go_ret
            exact ⟨ret_int HC.out.symm, HB1.out⟩
      · have hke : k = cs.length := by omega
        subst hke
        have HC : Hid (gchk W H cs = 0) := gchk_good E1.out E2.out HL.out HI.out
        go_wp2_with fail
        go_ret
        exact ⟨ret_int HC.out.symm, HB1.out⟩
  · have HC : Hid (gchk W H cs = 3) := gchk_form E1.out E2.out hl
    have hne : ((cs.length : Int) != W * H) = true := by simp [hl]
    clear hl
    go_enter Tryd.func6, Tryd.ntmps6
    go_wp2_with fail
    go_ret
    exact ⟨ret_int HC.out.symm, balloc (Below.refl _ _) _⟩
end Go.Proofs.YtekeajencihfgaaDoor
