/-
  Contracts: cheapest, bounds, check, Cost.
-/
import Derived.Test.YtefikbjjdldomaaNA
import Derived.Test.YtefikbjjdldomaaMx
namespace Go.Proofs.Ytefikbjjdldomaa
open Go.RowKit
open Nm Wm

set_option maxRecDepth 100000 in
set_option maxHeartbeats 8000000 in
theorem cheapest_any (n u x : Int) (v : Value) (es : List E) (w : World) (hv : SlE w v es) (hlen : es.length ≤ 600) :
    Calls Try.prog 77 #[.agg #[.int .i64 n, v], .int .i64 u, .int .i64 x] w fun e w' => e = .returned (.tuple #[.int .i64 ((chp u x es).getD 0), .bool (chp u x es).isSome]) ∧ Below w.heap.size w w' := by
  obtain ⟨a0, c0, rfl⟩ := hv.val
  have HV : Hid _ := hv
  clear hv
  go_enter Try.func77, Try.ntmps77
  go_wp2_with fail
  have B0 : Hid (Below w.heap.size w (w.alloc (.cells #[.int .i64 n, .slice a0 es.length c0] 24))) := balloc (Below.refl _ _) _
  generalize w.alloc (.cells #[.int .i64 n, .slice a0 es.length c0] 24) = W0 at *
  have V0 : Hid _ := HV.out.below B0.out
  go_loopw [15, 8, 9] (fun z l ok wr => ∃ k : Nat, z = .int .i64 k ∧ k ≤ es.length ∧ l = .int .i64 ((chp u x (es.take k)).getD 0) ∧ ok = .bool (chp u x (es.take k)).isSome ∧ Below W0.heap.size W0 wr) (fun z _ _ _ => es.length - (intOf z).toNat)
  case atStart => exact ⟨0, rfl, Nat.zero_le _, rfl, rfl, Below.refl _ _⟩
  case round =>
    obtain ⟨k, rfl, hk, rfl, rfl, hb⟩ := hrel
    have HB : Hid (Below W0.heap.size W0 wr) := hb
    clear hb
    by_cases hlt : k < es.length
    · have hki : (k : Int) < (es.length : Int) := by omega
      obtain ⟨b, off, cap, hveq, hc⟩ := (V0.out.below HB.out).some' (by omega)
      simp only [Value.slice.injEq] at hveq
      obtain ⟨rfl, -, rfl⟩ := hveq
      obtain ⟨d0, d1, d2⟩ := hc k hlt
      clear hc
      have HN : Hid _ := chp_next u x hlt
      obtain ⟨p, hp⟩ : ∃ p, at3 es k = p := ⟨_, rfl⟩
      rw [hp] at d0 d1 d2 HN
      obtain ⟨a, y, z⟩ := p
      simp only at d0 d1 d2
      clear hp
      have B1 : Hid (Below W0.heap.size W0 (wr.alloc (.cells #[.int .i64 a, .int .i64 y, .int .i64 z] 66))) := balloc HB.out _
      generalize chp u x (es.take k) = o at *
      by_cases hm : a = u ∧ y = x
      · have hau : (a == u) = true := by simp [hm.1]
        have hyx : (y == x) = true := by simp [hm.2]
        cases o with
        | none =>
          have HF : Hid (chp u x (es.take (k + 1)) = some z) := HN.out.trans (stp_first hm)
          clear hm HN
          simp only [Option.getD_none, Option.isSome_none]
          go_wp2_with fail
          go_roundw
          case rel => exact ⟨k + 1, by go_num, by omega, by rw [HF.out]; rfl, by rw [HF.out]; rfl, B1.out⟩
          case measure => simp [intOf]; omega
        | some c =>
          simp only [Option.getD_some, Option.isSome_some]
          by_cases hz : z < c
          · have HF : Hid (chp u x (es.take (k + 1)) = some z) := HN.out.trans (stp_less hm hz)
            clear hm HN
            go_wp2_with fail
            go_roundw
            case rel => exact ⟨k + 1, by go_num, by omega, by rw [HF.out]; rfl, by rw [HF.out]; rfl, B1.out⟩
            case measure => simp [intOf]; omega
          · have HF : Hid (chp u x (es.take (k + 1)) = some c) := HN.out.trans (stp_more hm hz)
            clear hm HN
            go_wp2_with fail
            go_roundw
            case rel => exact ⟨k + 1, by go_num, by omega, by rw [HF.out]; rfl, by rw [HF.out]; rfl, B1.out⟩
            case measure => simp [intOf]; omega
      · have HF : Hid (chp u x (es.take (k + 1)) = o) := HN.out.trans (stp_no hm)
        clear HN
        by_cases h1 : a = u
        · have hau : (a == u) = true := by simp [h1]
          have hyx : (y == x) = false := by simp; exact fun h => hm ⟨h1, h⟩
          clear hm h1
          go_wp2_with fail
          go_roundw
          case rel => exact ⟨k + 1, by go_num, by omega, by rw [HF.out], by rw [HF.out], B1.out⟩
          case measure => simp [intOf]; omega
        · have hau : (a == u) = false := by simp [h1]
          clear hm h1
          go_wp2_with fail
          go_roundw
          case rel => exact ⟨k + 1, by go_num, by omega, by rw [HF.out], by rw [HF.out], B1.out⟩
          case measure => simp [intOf]; omega
    · have hke : k = es.length := by omega
      subst hke
      rw [List.take_length]
      go_wp2_with fail
      go_ret2
      exact ⟨rfl, bthen B0.out HB.out⟩

def bnd (p : List Int) : Int := if p.length = 0 then 1 else if 100 < p.length then 2 else 0
theorem bounds_any (p : List Int) (a : Option Addr) (c : Nat) (w : World) (hl : p.length ≤ 9223372036854775807) :
    Calls Try.prog 95 #[.slice a p.length c] w fun e w' => e = .returned (.int .i64 (bnd p)) ∧ w' = w := by
  by_cases h0 : p.length = 0
  · have H : Hid (bnd p = 1) := by unfold Hid bnd; rw [if_pos h0]
    have h0i : ((p.length : Int) == 0) = true := by simp [h0]
    clear h0
    go_enter Try.func95, Try.ntmps95
    go_wp2_with fail
    go_ret
    exact ⟨ret_int H.out.symm, rfl⟩
  · have h0i : ((p.length : Int) == 0) = false := by simp; exact fun e => h0 (by simp [e])
    by_cases h1 : 100 < p.length
    · have H : Hid (bnd p = 2) := by unfold Hid bnd; rw [if_neg h0, if_pos h1]
      have h1i : (100 : Int) < (p.length : Int) := by omega
      clear h0
      go_enter Try.func95, Try.ntmps95
      go_wp2_with fail
      go_ret
      exact ⟨ret_int H.out.symm, rfl⟩
    · have H : Hid (bnd p = 0) := by unfold Hid bnd; rw [if_neg h0, if_neg h1]
      have h1i : ¬ (100 : Int) < (p.length : Int) := by omega
      clear h0
      go_enter Try.func95, Try.ntmps95
      go_wp2_with fail
      go_ret
      exact ⟨ret_int H.out.symm, rfl⟩
theorem bnd_zero {p : List Int} (h : bnd p = 0) : p.length ≠ 0 ∧ p.length ≤ 100 := by
  unfold bnd at h
  split at h
  · cases h
  · split at h
    · cases h
    · omega

/-- What check says. -/
def pck (n : Int) (es : List E) (p : List Int) : Int := if nck n es ≠ 0 then nck n es else if bnd p ≠ 0 then bnd p else if p.all (plc n) = true then 0 else 1
theorem pck_net {n : Int} {es : List E} (p : List Int) (h : nck n es ≠ 0) : pck n es p = nck n es := by unfold pck; rw [if_pos h]
theorem pck_bnd {n : Int} {es : List E} {p : List Int} (h : nck n es = 0) (h1 : bnd p ≠ 0) : pck n es p = bnd p := by unfold pck; rw [if_neg (by simp [h]), if_pos h1]
theorem all_at {n : Int} {p : List Int} (h : ∀ k, k < p.length → plc n (p.getD k 0) = true) : p.all (plc n) = true := by
  rw [List.all_eq_true]
  intro x hx
  obtain ⟨k, hk, rfl⟩ := List.mem_iff_getElem.1 hx
  have := h k hk
  rwa [List.getD_eq_getElem?_getD, List.getElem?_eq_getElem hk] at this
theorem all_not {n : Int} {p : List Int} {k : Nat} (hk : k < p.length) (h : plc n (p.getD k 0) = false) : p.all (plc n) = false := by
  cases ha : p.all (plc n)
  · rfl
  · rw [List.all_eq_true] at ha
    have := ha (p.getD k 0) (by simp [List.getD_eq_getElem?_getD, hk])
    rw [h] at this; cases this
theorem pck_out {n : Int} {es : List E} {p : List Int} (h : nck n es = 0) (h1 : bnd p = 0) (h2 : p.all (plc n) = false) : pck n es p = 1 := by
  unfold pck; rw [if_neg (by simp [h]), if_neg (by simp [h1]), if_neg (by simp [h2])]
theorem pck_ok {n : Int} {es : List E} {p : List Int} (h : nck n es = 0) (h1 : bnd p = 0) (h2 : p.all (plc n) = true) : pck n es p = 0 := by
  unfold pck; rw [if_neg (by simp [h]), if_neg (by simp [h1]), if_pos h2]
theorem pck_zero {n : Int} {es : List E} {p : List Int} (h : pck n es p = 0) : nck n es = 0 ∧ bnd p = 0 ∧ p.all (plc n) = true := by
  unfold pck at h
  split at h
  · rename_i h1; exact absurd h h1
  · rename_i h1
    split at h
    · rename_i h2; exact absurd h h2
    · rename_i h2
      split at h
      · rename_i h3; exact ⟨Classical.byContradiction h1, Classical.byContradiction h2, h3⟩
      · cases h
theorem wcode_pck {n : Int} {es : List E} {p : List Int} (h : pck n es p ≠ 0) : wcode n es p = (0, pck n es p) := by
  by_cases h0 : nck n es = 0
  · by_cases h1 : bnd p = 0
    · cases h2 : p.all (plc n)
      · have := bnd_zero h1
        rw [pck_out h0 h1 h2, wcode_out h0 this.1 (by omega) h2]
      · exact absurd (pck_ok h0 h1 h2) h
    · rw [pck_bnd h0 h1]
      unfold bnd at h1 ⊢
      by_cases h2 : p.length = 0
      · rw [if_pos h2, wcode_nil h0 h2]
      · rw [if_neg h2] at h1 ⊢
        by_cases h3 : 100 < p.length
        · rw [if_pos h3, wcode_long h0 h3]
        · rw [if_neg h3] at h1; exact absurd rfl h1
  · rw [pck_net p h0, wcode_net p h0]

set_option maxRecDepth 100000 in
set_option maxHeartbeats 8000000 in
theorem pcheck_any (n : Int) (v u : Value) (es : List E) (p : List Int) (w : World) (hv : SlE w v es) (hu : SlI w u p) (hlen : es.length ≤ 9223372036854775807) (hl : p.length ≤ 9223372036854775807) :
    Calls Try.prog 76 #[.agg #[.int .i64 n, v], u] w fun e w' => e = .returned (.int .i64 (pck n es p)) ∧ Below w.heap.size w w' := by
  obtain ⟨a0, c0, rfl⟩ := hv.val
  obtain ⟨a1, c1, rfl⟩ := hu.val
  have HV : Hid _ := hv
  have HU : Hid _ := hu
  clear hv hu
  by_cases hc : nck n es = 0
  · have HC : Hid _ := hc
    clear hc
    go_enter Try.func76, Try.ntmps76
    go_wp2_with fail
    have P0 : Hid _ := box2_new w n (.slice a0 es.length c0) 24
    have B0 : Hid (Below w.heap.size w (w.alloc (.cells #[.int .i64 n, .slice a0 es.length c0] 24))) := balloc (Below.refl _ _) _
    generalize w.alloc (.cells #[.int .i64 n, .slice a0 es.length c0] 24) = W0 at *
    refine (ncheck_any n _ es W0 (HV.out.below B0.out) hlen).mono ?_
    rintro e w1 ⟨rfl, b1⟩
    rw [HC.out]
    have P1 : Hid _ := P0.out.below b1
    have B1 : Hid (Below w.heap.size w w1) := bthen B0.out b1
    clear b1 P0 B0
    go_wp2_with fail
    refine (bounds_any p a1 c1 w1 hl).mono ?_
    rintro e w2 ⟨rfl, rfl⟩
    by_cases hb : bnd p = 0
    · have HBN : Hid _ := hb
      rw [HBN.out]
      obtain ⟨hp0, hp1⟩ := bnd_zero hb
      clear hb
      go_wp2_with fail
      go_loopw [21] (fun z wr => ∃ k : Nat, z = .int .i64 k ∧ k ≤ p.length ∧ (∀ i, i < k → plc n (p.getD i 0) = true) ∧ Below w2.heap.size w2 wr) (fun z _ => p.length - (intOf z).toNat)
      case atStart => exact ⟨0, rfl, Nat.zero_le _, fun i hi => absurd hi (by omega), Below.refl _ _⟩
      case round =>
        obtain ⟨k, rfl, hk, hin, hb⟩ := hrel
        have HI : Hid _ := hin
        have HB : Hid (Below w2.heap.size w2 wr) := hb
        clear hin hb
        by_cases hlt : k < p.length
        · have hki : (k : Int) < (p.length : Int) := by omega
          obtain ⟨b, off, cap, hveq, hcl⟩ := ((HU.out.below B1.out).below HB.out).some' (by omega)
          simp only [Value.slice.injEq] at hveq
          obtain ⟨rfl, -, rfl⟩ := hveq
          have d0 := hcl k hlt
          clear hcl
          obtain ⟨x, hx⟩ : ∃ x, p.getD k 0 = x := ⟨_, rfl⟩
          rw [hx] at d0
          have HX : Hid _ := hx
          clear hx
          obtain ⟨p0, p1⟩ := P1.out.below HB.out
          go_wp2_with fail
          cases e1 : plc n x
          · have HF : Hid _ := pck_out HC.out HBN.out (all_not hlt (by rw [HX.out]; exact e1))
            have E1 : Hid _ := e1
            clear e1
            refine (isPlace_at n x _ _ _ _ wr E1.out).mono ?_
            rintro e w3 ⟨rfl, b3⟩
            go_wp2_with fail
            go_ret
            exact ⟨ret_int (by rw [HF.out]), bthen (bthen B1.out HB.out) b3⟩
          · have E1 : Hid _ := e1
            clear e1
            refine (isPlace_at n x _ _ _ _ wr E1.out).mono ?_
            rintro e w3 ⟨rfl, b3⟩
            have B3 : Hid (Below w2.heap.size w2 w3) := bthen HB.out b3
            clear b3
            go_wp2_with fail
            go_roundw
            case rel =>
              refine ⟨k + 1, by go_num, by omega, fun i hi => ?_, B3.out⟩
              rcases (show i < k ∨ i = k by omega) with h | rfl
              · exact HI.out i h
              · rw [HX.out]; exact E1.out
            case measure => simp [intOf]; omega
        · have hke : k = p.length := by omega
          subst hke
          have HF : Hid _ := pck_ok HC.out HBN.out (all_at HI.out)
          go_wp2_with fail
          go_ret
          exact ⟨ret_int (by rw [HF.out]), bthen B1.out HB.out⟩
    · have HF : Hid _ := pck_bnd HC.out hb
      have hz : (bnd p != 0) = true := by simp [hb]
      clear hb
      go_wp2_with fail
      go_ret
      exact ⟨ret_int (by rw [HF.out]), B1.out⟩
  · have HF : Hid _ := pck_net p hc
    have hz : (nck n es != 0) = true := by simp [hc]
    clear hc
    go_enter Try.func76, Try.ntmps76
    go_wp2_with fail
    have B0 : Hid (Below w.heap.size w (w.alloc (.cells #[.int .i64 n, .slice a0 es.length c0] 24))) := balloc (Below.refl _ _) _
    generalize w.alloc (.cells #[.int .i64 n, .slice a0 es.length c0] 24) = W0 at *
    refine (ncheck_any n _ es W0 (HV.out.below B0.out) hlen).mono ?_
    rintro e w1 ⟨rfl, b1⟩
    go_wp2_with fail
    go_ret
    exact ⟨ret_int (by rw [HF.out]), bthen B0.out b1⟩
end Go.Proofs.Ytefikbjjdldomaa
