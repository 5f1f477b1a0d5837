/-
  Contracts: Look and its twin in the document's answer.
-/
import Derived.Test.YtefikbjjdldomaaNB
namespace Go.Proofs.Ytefikbjjdldomaa
open Go.RowKit
open Nm

/-- What Look says. -/
def lk (n : Int) (es : List E) (ps : List Int) : Int := if nps n es ≠ 0 then nps n es else if ps.all (plc n) = true then 0 else 1
theorem lk_net {n : Int} {es : List E} (ps : List Int) (h : nps n es ≠ 0) : lk n es ps = nps n es := by unfold lk; rw [if_pos h]
theorem lk_out {n : Int} {es : List E} {ps : List Int} {k : Nat} (h : nps n es = 0) (hk : k < ps.length) (hp : plc n (ps.getD k 0) = false) : lk n es ps = 1 := by
  unfold lk; rw [if_neg (by simp [h]), if_neg]
  intro ha
  have := List.all_eq_true.1 ha (ps.getD k 0) (by simp [List.getD_eq_getElem?_getD, hk])
  rw [hp] at this; cases this
theorem lk_ok {n : Int} {es : List E} {ps : List Int} (h : nps n es = 0) (hp : ∀ k, k < ps.length → plc n (ps.getD k 0) = true) : lk n es ps = 0 := by
  unfold lk; rw [if_neg (by simp [h]), if_pos]
  rw [List.all_eq_true]
  intro x hx
  obtain ⟨k, hk, rfl⟩ := List.mem_iff_getElem.1 hx
  have := hp k hk
  rwa [List.getD_eq_getElem?_getD, List.getElem?_eq_getElem hk] at this
theorem lk_zero {n : Int} {es : List E} {ps : List Int} (h : lk n es ps = 0) : nps n es = 0 ∧ ps.all (plc n) = true := by
  unfold lk at h
  split at h
  · rename_i h1; exact absurd h h1
  · rename_i h1
    split at h
    · rename_i h2; exact ⟨Classical.byContradiction h1, h2⟩
    · cases h

set_option maxRecDepth 100000 in
set_option maxHeartbeats 8000000 in
theorem look_any (n : Int) (v u : Value) (es : List E) (p : List Int) (w : World) (hv : SlE w v es) (hu : SlI w u p) (hlen : es.length ≤ 9223372036854775807) (hl : p.length ≤ 100) :
    Calls Try.prog 26 #[.agg #[.int .i64 n, v], u] w fun e w' => e = .returned (.int .i64 (lk n es p)) ∧ Below w.heap.size w w' := by
  obtain ⟨a0, c0, rfl⟩ := hv.val
  obtain ⟨a1, c1, rfl⟩ := hu.val
  have HV : Hid _ := hv
  have HU : Hid _ := hu
  clear hv hu
  by_cases hc : nps n es = 0
  · have HC : Hid _ := hc
    clear hc
    go_enter Try.func26, Try.ntmps26
    go_wp2_with fail
    have P0 : Hid _ := box2_new w n (.slice a0 es.length c0) 24
    have B0 : Hid (Below w.heap.size w (w.alloc (.cells #[.int .i64 n, .slice a0 es.length c0] 24))) := balloc (Below.refl _ _) _
    generalize w.alloc (.cells #[.int .i64 n, .slice a0 es.length c0] 24) = W0 at *
    refine (npos_any n _ es W0 (HV.out.below B0.out) hlen).mono ?_
    rintro e w2 ⟨rfl, b1⟩
    rw [HC.out]
    have P1 : Hid _ := P0.out.below b1
    have B1 : Hid (Below w.heap.size w w2) := bthen B0.out b1
    clear b1 P0 B0
    go_wp2_with fail
    go_loopw [15] (fun z wr => ∃ k : Nat, z = .int .i64 k ∧ k ≤ p.length ∧ (∀ i, i < k → plc n (p.getD i 0) = true) ∧ Below w2.heap.size w2 wr) (fun z _ => p.length - (intOf z).toNat)
    case atStart => exact ⟨0, rfl, Nat.zero_le _, fun i hi => absurd hi (by omega), Below.refl _ _⟩
    case round =>
      obtain ⟨k, rfl, hk, hin, hb⟩ := hrel
      have HI : Hid _ := hin
      have HB : Hid (Below w2.heap.size w2 wr) := hb
      clear hin hb
      by_cases hlt : k < p.length
      · have hki : (k : Int) < (p.length : Int) := by omega
        obtain ⟨b, off, cap, hveq, hcl⟩ := ((HU.out.below B1.out).below HB.out).some' (by omega)
        simp only [Value.slice.injEq] at hveq
        obtain ⟨rfl, -, rfl⟩ := hveq
        have d0 := hcl k hlt
        clear hcl
        obtain ⟨x, hx⟩ : ∃ x, p.getD k 0 = x := ⟨_, rfl⟩
        rw [hx] at d0
        have HX : Hid _ := hx
        clear hx
        obtain ⟨p0, p1⟩ := P1.out.below HB.out
        go_wp2_with fail
        cases e1 : plc n x
        · have HF : Hid _ := lk_out HC.out hlt (by rw [HX.out]; exact e1)
          have E1 : Hid _ := e1
          clear e1
          refine (isPlace_at n x _ _ _ _ wr E1.out).mono ?_
          rintro e w3 ⟨rfl, b3⟩
          go_wp2_with fail
          go_ret
          exact ⟨ret_int (by rw [HF.out]), bthen (bthen B1.out HB.out) b3⟩
        · have E1 : Hid _ := e1
          clear e1
          refine (isPlace_at n x _ _ _ _ wr E1.out).mono ?_
          rintro e w3 ⟨rfl, b3⟩
          have B3 : Hid (Below w2.heap.size w2 w3) := bthen HB.out b3
          clear b3
          go_wp2_with fail
          go_roundw
          case rel =>
            refine ⟨k + 1, by go_num, by omega, fun i hi => ?_, B3.out⟩
            rcases (show i < k ∨ i = k by omega) with h | rfl
            · exact HI.out i h
            · rw [HX.out]; exact E1.out
          case measure => simp [intOf]; omega
      · have hke : k = p.length := by omega
        subst hke
        have HF : Hid _ := lk_ok HC.out HI.out
        go_wp2_with fail
        go_ret
        exact ⟨ret_int (by rw [HF.out]), bthen B1.out HB.out⟩
  · have HF : Hid _ := lk_net p hc
    have hz : (nps n es != 0) = true := by simp [hc]
    clear hc
    go_enter Try.func26, Try.ntmps26
    go_wp2_with fail
    have B0 : Hid (Below w.heap.size w (w.alloc (.cells #[.int .i64 n, .slice a0 es.length c0] 24))) := balloc (Below.refl _ _) _
    generalize w.alloc (.cells #[.int .i64 n, .slice a0 es.length c0] 24) = W0 at *
    refine (npos_any n _ es W0 (HV.out.below B0.out) hlen).mono ?_
    rintro e w1 ⟨rfl, b1⟩
    go_wp2_with fail
    go_ret
    exact ⟨ret_int (by rw [HF.out]), bthen B0.out b1⟩
set_option maxRecDepth 100000 in
set_option maxHeartbeats 8000000 in
theorem rlook_any (n : Int) (v u : Value) (es : List E) (p : List Int) (w : World) (hv : SlE w v es) (hu : SlI w u p) (hlen : es.length ≤ 9223372036854775807) (hl : p.length ≤ 100) :
    Calls Try.prog 35 #[.agg #[.int .i64 n, v], u] w fun e w' => e = .returned (.int .i64 (lk n es p)) ∧ Below w.heap.size w w' := by
  obtain ⟨a0, c0, rfl⟩ := hv.val
  obtain ⟨a1, c1, rfl⟩ := hu.val
  have HV : Hid _ := hv
  have HU : Hid _ := hu
  clear hv hu
  by_cases hc : nps n es = 0
  · have HC : Hid _ := hc
    clear hc
    go_enter Try.func35, Try.ntmps35
    go_wp2_with fail
    have P0 : Hid _ := box2_new w n (.slice a0 es.length c0) 24
    have B0 : Hid (Below w.heap.size w (w.alloc (.cells #[.int .i64 n, .slice a0 es.length c0] 24))) := balloc (Below.refl _ _) _
    generalize w.alloc (.cells #[.int .i64 n, .slice a0 es.length c0] 24) = W0 at *
    refine (rpos_any n _ es W0 (HV.out.below B0.out) hlen).mono ?_
    rintro e w2 ⟨rfl, b1⟩
    rw [HC.out]
    have P1 : Hid _ := P0.out.below b1
    have B1 : Hid (Below w.heap.size w w2) := bthen B0.out b1
    clear b1 P0 B0
    go_wp2_with fail
    go_loopw [15] (fun z wr => ∃ k : Nat, z = .int .i64 k ∧ k ≤ p.length ∧ (∀ i, i < k → plc n (p.getD i 0) = true) ∧ Below w2.heap.size w2 wr) (fun z _ => p.length - (intOf z).toNat)
    case atStart => exact ⟨0, rfl, Nat.zero_le _, fun i hi => absurd hi (by omega), Below.refl _ _⟩
    case round =>
      obtain ⟨k, rfl, hk, hin, hb⟩ := hrel
      have HI : Hid _ := hin
      have HB : Hid (Below w2.heap.size w2 wr) := hb
      clear hin hb
      by_cases hlt : k < p.length
      · have hki : (k : Int) < (p.length : Int) := by omega
        obtain ⟨b, off, cap, hveq, hcl⟩ := ((HU.out.below B1.out).below HB.out).some' (by omega)
        simp only [Value.slice.injEq] at hveq
        obtain ⟨rfl, -, rfl⟩ := hveq
        have d0 := hcl k hlt
        clear hcl
        obtain ⟨x, hx⟩ : ∃ x, p.getD k 0 = x := ⟨_, rfl⟩
        rw [hx] at d0
        have HX : Hid _ := hx
        clear hx
        obtain ⟨p0, p1⟩ := P1.out.below HB.out
        by_cases h0 : x < 0
        · have HF : Hid _ := lk_out HC.out hlt (by rw [HX.out]; exact plc_no (by omega))
          go_wp2_with fail
          go_ret
          exact ⟨ret_int (by rw [HF.out]), bthen B1.out HB.out⟩
        · by_cases h1 : n ≤ x
          · have HF : Hid _ := lk_out HC.out hlt (by rw [HX.out]; exact plc_no (by omega))
            go_wp2_with fail
            go_ret
            exact ⟨ret_int (by rw [HF.out]), bthen B1.out HB.out⟩
          · have HF : Hid _ := plc_yes (n := n) (v := x) (by omega) (by omega)
            go_wp2_with fail
            go_roundw
            case rel =>
              refine ⟨k + 1, by go_num, by omega, fun i hi => ?_, HB.out⟩
              rcases (show i < k ∨ i = k by omega) with h | rfl
              · exact HI.out i h
              · rw [HX.out]; exact HF.out
            case measure => simp [intOf]; omega
      · have hke : k = p.length := by omega
        subst hke
        have HF : Hid _ := lk_ok HC.out HI.out
        go_wp2_with fail
        go_ret
        exact ⟨ret_int (by rw [HF.out]), bthen B1.out HB.out⟩
  · have HF : Hid _ := lk_net p hc
    have hz : (nps n es != 0) = true := by simp [hc]
    clear hc
    go_enter Try.func35, Try.ntmps35
    go_wp2_with fail
    have B0 : Hid (Below w.heap.size w (w.alloc (.cells #[.int .i64 n, .slice a0 es.length c0] 24))) := balloc (Below.refl _ _) _
    generalize w.alloc (.cells #[.int .i64 n, .slice a0 es.length c0] 24) = W0 at *
    refine (rpos_any n _ es W0 (HV.out.below B0.out) hlen).mono ?_
    rintro e w1 ⟨rfl, b1⟩
    go_wp2_with fail
    go_ret
    exact ⟨ret_int (by rw [HF.out]), bthen B0.out b1⟩

end Go.Proofs.Ytefikbjjdldomaa
