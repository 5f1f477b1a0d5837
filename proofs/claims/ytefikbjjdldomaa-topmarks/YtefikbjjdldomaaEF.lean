/-
  Contract: heur.checkMarks.
-/
import Derived.Test.YtefikbjjdldomaaLK
import Derived.Test.YtefikbjjdldomaaMx
namespace Go.Proofs.Ytefikbjjdldomaa
open Go.RowKit
open Nm Wm Dm

/-- What is wrong with marks. -/
def mrk (n : Int) (es : List E) (ps : List Int) : Int := if nps n es ≠ 0 then nps n es else if 4 < ps.length then 2 else lk n es ps
theorem mrk_net {n : Int} {es : List E} (ps : List Int) (h : nps n es ≠ 0) : mrk n es ps = nps n es := by unfold mrk; rw [if_pos h]
theorem mrk_large {n : Int} {es : List E} {ps : List Int} (h : nps n es = 0) (h4 : 4 < ps.length) : mrk n es ps = 2 := by unfold mrk; rw [if_neg (by simp [h]), if_pos h4]
theorem mrk_small {n : Int} {es : List E} {ps : List Int} (h : nps n es = 0) (h4 : ¬ 4 < ps.length) : mrk n es ps = lk n es ps := by unfold mrk; rw [if_neg (by simp [h]), if_neg h4]
theorem mrk_out {n : Int} {es : List E} {ps : List Int} {k : Nat} (h : nps n es = 0) (h4 : ¬ 4 < ps.length) (hk : k < ps.length) (hp : plc n (ps.getD k 0) = false) : mrk n es ps = 1 := by rw [mrk_small h h4]; exact lk_out h hk hp
theorem mrk_ok {n : Int} {es : List E} {ps : List Int} (h : nps n es = 0) (h4 : ¬ 4 < ps.length) (hp : ∀ k, k < ps.length → plc n (ps.getD k 0) = true) : mrk n es ps = 0 := by rw [mrk_small h h4]; exact lk_ok h hp
theorem mrk_zero {n : Int} {es : List E} {ps : List Int} (h : mrk n es ps = 0) : nps n es = 0 ∧ ps.length ≤ 4 ∧ ps.all (plc n) = true := by
  unfold mrk at h
  split at h
  · rename_i h1; exact absurd h h1
  · split at h
    · cases h
    · rename_i h1 h2; exact ⟨(lk_zero h).1, by omega, (lk_zero h).2⟩

set_option maxRecDepth 100000 in
set_option maxHeartbeats 8000000 in
theorem checkmarks_any (n : Int) (v u : Value) (es : List E) (p : List Int) (w : World) (hv : SlE w v es) (hu : SlI w u p) (hlen : es.length ≤ 9223372036854775807) (hl : p.length ≤ 9223372036854775807) :
    Calls Try.prog 79 #[.agg #[.int .i64 n, v], u] w fun e w' => e = .returned (.int .i64 (mrk n es p)) ∧ Below w.heap.size w w' := by
  obtain ⟨a0, c0, rfl⟩ := hv.val
  obtain ⟨a1, c1, rfl⟩ := hu.val
  have HV : Hid _ := hv
  have HU : Hid _ := hu
  clear hv hu
  by_cases hc : nps n es = 0
  · have HC : Hid _ := hc
    clear hc
    go_enter Try.func79, Try.ntmps79
    go_wp2_with fail
    have P0 : Hid _ := box2_new w n (.slice a0 es.length c0) 24
    have B0 : Hid (Below w.heap.size w (w.alloc (.cells #[.int .i64 n, .slice a0 es.length c0] 24))) := balloc (Below.refl _ _) _
    generalize w.alloc (.cells #[.int .i64 n, .slice a0 es.length c0] 24) = W0 at *
    refine (npos_any n _ es W0 (HV.out.below B0.out) hlen).mono ?_
    rintro e w2 ⟨rfl, b1⟩
    rw [HC.out]
    have P1 : Hid _ := P0.out.below b1
    have B1 : Hid (Below w.heap.size w w2) := bthen B0.out b1
    clear b1 P0 B0
    by_cases h4 : 4 < p.length
    · have HF : Hid (mrk n es p = 2) := mrk_large HC.out h4
      have h4i : (4 : Int) < (p.length : Int) := by omega
      clear h4
      go_wp2_with fail
      go_ret
      exact ⟨ret_int (by rw [HF.out]), B1.out⟩
    have h4i : ¬ (4 : Int) < (p.length : Int) := by omega
    have H4 : Hid (¬ 4 < p.length) := h4
    go_wp2_with fail
    go_loopw [18] (fun z wr => ∃ k : Nat, z = .int .i64 k ∧ k ≤ p.length ∧ (∀ i, i < k → plc n (p.getD i 0) = true) ∧ Below w2.heap.size w2 wr) (fun z _ => p.length - (intOf z).toNat)
    case atStart => exact ⟨0, rfl, Nat.zero_le _, fun i hi => absurd hi (by omega), Below.refl _ _⟩
    case round =>
      obtain ⟨k, rfl, hk, hin, hb⟩ := hrel
      have HI : Hid _ := hin
      have HB : Hid (Below w2.heap.size w2 wr) := hb
      clear hin hb
      by_cases hlt : k < p.length
      · have hki : (k : Int) < (p.length : Int) := by omega
        obtain ⟨b, off, cap, hveq, hcl⟩ := ((HU.out.below B1.out).below HB.out).some' (by omega)
        simp only [Value.slice.injEq] at hveq
        obtain ⟨rfl, -, rfl⟩ := hveq
        have d0 := hcl k hlt
        clear hcl
        obtain ⟨x, hx⟩ : ∃ x, p.getD k 0 = x := ⟨_, rfl⟩
        rw [hx] at d0
        have HX : Hid _ := hx
        clear hx
        obtain ⟨p0, p1⟩ := P1.out.below HB.out
        go_wp2_with fail
        cases e1 : plc n x
        · have HF : Hid _ := mrk_out HC.out H4.out hlt (by rw [HX.out]; exact e1)
          have E1 : Hid _ := e1
          clear e1
          refine (isPlace_at n x _ _ _ _ wr E1.out).mono ?_
          rintro e w3 ⟨rfl, b3⟩
          go_wp2_with fail
          go_ret
          exact ⟨ret_int (by rw [HF.out]), bthen (bthen B1.out HB.out) b3⟩
        · have E1 : Hid _ := e1
          clear e1
          refine (isPlace_at n x _ _ _ _ wr E1.out).mono ?_
          rintro e w3 ⟨rfl, b3⟩
          have B3 : Hid (Below w2.heap.size w2 w3) := bthen HB.out b3
          clear b3
          go_wp2_with fail
          go_roundw
          case rel =>
            refine ⟨k + 1, by go_num, by omega, fun i hi => ?_, B3.out⟩
            rcases (show i < k ∨ i = k by omega) with h | rfl
            · exact HI.out i h
            · rw [HX.out]; exact E1.out
          case measure => simp [intOf]; omega
      · have hke : k = p.length := by omega
        subst hke
        have HF : Hid _ := mrk_ok HC.out H4.out HI.out
        go_wp2_with fail
        go_ret
        exact ⟨ret_int (by rw [HF.out]), bthen B1.out HB.out⟩
  · have HF : Hid _ := mrk_net p hc
    have hz : (nps n es != 0) = true := by simp [hc]
    clear hc
    go_enter Try.func79, Try.ntmps79
    go_wp2_with fail
    have B0 : Hid (Below w.heap.size w (w.alloc (.cells #[.int .i64 n, .slice a0 es.length c0] 24))) := balloc (Below.refl _ _) _
    generalize w.alloc (.cells #[.int .i64 n, .slice a0 es.length c0] 24) = W0 at *
    refine (npos_any n _ es W0 (HV.out.below B0.out) hlen).mono ?_
    rintro e w1 ⟨rfl, b1⟩
    go_wp2_with fail
    go_ret
    exact ⟨ret_int (by rw [HF.out]), bthen B0.out b1⟩
end Go.Proofs.Ytefikbjjdldomaa
