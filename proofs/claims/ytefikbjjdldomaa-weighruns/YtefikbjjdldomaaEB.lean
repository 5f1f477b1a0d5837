/-
  Contracts: heur.Check.
-/
import Derived.Test.YtefikbjjdldomaaEA
import Derived.Test.YtefikbjjdldomaaDL
namespace Go.Proofs.Ytefikbjjdldomaa
open Go.RowKit
open Nm Wm Dm
attribute [local go_sem ↓] Go.wp_at_zero Go.wp_at_succ

/-- An edge says that h guesses too much. -/
def dear (h : List Int) (e : E) : Bool := decide (e.2.2 + h.getD e.2.1.toNat 0 < h.getD e.1.toNat 0)
/-- What is wrong with a guess. -/
def gus (n : Int) (es : List E) (t : Int) (h : List Int) : Int :=
  if lk n es [t] ≠ 0 then lk n es [t] else if acs n h = false then 1 else if h.getD t.toNat 0 ≠ 0 ∨ es.any (dear h) = true then 7 else 0
theorem gus_look {n : Int} {es : List E} {t : Int} (h : List Int) (hc : lk n es [t] ≠ 0) : gus n es t h = lk n es [t] := by unfold gus; rw [if_pos hc]
theorem gus_costs {n : Int} {es : List E} {t : Int} {h : List Int} (hc : lk n es [t] = 0) (h1 : acs n h = false) : gus n es t h = 1 := by unfold gus; rw [if_neg (by simp [hc]), if_pos h1]
theorem gus_end {n : Int} {es : List E} {t : Int} {h : List Int} (hc : lk n es [t] = 0) (h1 : acs n h = true) (h2 : h.getD t.toNat 0 ≠ 0) : gus n es t h = 7 := by
  unfold gus; rw [if_neg (by simp [hc]), if_neg (by simp [h1]), if_pos (.inl h2)]
theorem gus_dear {n : Int} {es : List E} {t : Int} {h : List Int} (hc : lk n es [t] = 0) (h1 : acs n h = true) {k : Nat} (hk : k < es.length) (h2 : dear h (at3 es k) = true) : gus n es t h = 7 := by
  unfold gus; rw [if_neg (by simp [hc]), if_neg (by simp [h1]), if_pos (.inr (List.any_eq_true.2 ⟨_, mem_at hk, h2⟩))]
theorem gus_yes {n : Int} {es : List E} {t : Int} {h : List Int} (hc : lk n es [t] = 0) (h1 : acs n h = true) (h2 : h.getD t.toNat 0 = 0) (h3 : ∀ k, k < es.length → dear h (at3 es k) = false) : gus n es t h = 0 := by
  unfold gus; rw [if_neg (by simp [hc]), if_neg (by simp [h1]), if_neg]
  rintro (h | h)
  · exact h h2
  · obtain ⟨e, he, hd⟩ := List.any_eq_true.1 h
    obtain ⟨k, hk, rfl⟩ := List.mem_iff_getElem.1 he
    have := h3 k hk
    rw [show at3 es k = es[k] by unfold at3; simp [hk]] at this
    rw [this] at hd; cases hd

set_option maxRecDepth 100000 in
set_option maxHeartbeats 8000000 in
theorem hcheck_look (n t : Int) (v u : Value) (es : List E) (h : List Int) (w : World) (hv : SlE w v es) (hlen : es.length ≤ 9223372036854775807) (hc : lk n es [t] ≠ 0) :
    Calls Try.prog 37 #[.agg #[.int .i64 n, v], .int .i64 t, u] w fun e w' => e = .returned (.int .i64 (gus n es t h)) ∧ Below w.heap.size w w' := by
  rw [gus_look h hc]
  obtain ⟨a0, c0, rfl⟩ := hv.val
  have HV : Hid _ := hv
  have hz : (lk n es [t] != 0) = true := by simp [hc]
  clear hv hc
  go_enter Try.func37, Try.ntmps37
  go_wp2_with fail
  have B0 : Hid (Below w.heap.size w (w.alloc (.cells #[.int .i64 n, .slice a0 es.length c0] 24))) := balloc (Below.refl _ _) _
  have hz0 : (w.alloc (.cells #[.int .i64 n, .slice a0 es.length c0] 24)).heap.size = w.heap.size + 1 := by simp
  generalize w.alloc (.cells #[.int .i64 n, .slice a0 es.length c0] 24) = W0 at *
  have L1 : Hid _ := lit_nums W0 [t] #[.int .i64 t] 1 rfl rfl
  rw [hz0] at L1
  have B1 : Hid (Below w.heap.size w (W0.alloc (.cells #[.int .i64 t] 3))) := balloc B0.out _
  generalize W0.alloc (.cells #[.int .i64 t] 3) = W1 at *
  clear hz0
  refine (look_any n _ _ es [t] W1 (HV.out.below B1.out) L1.out hlen (by simp)).mono ?_
  rintro e w2 ⟨rfl, b2⟩
  go_wp2_with fail
  go_ret
  exact ⟨rfl, bthen B1.out b2⟩
set_option maxRecDepth 100000 in
set_option maxHeartbeats 16000000 in
theorem hcheck_in (n t : Nat) (v u : Value) (es : List E) (h : List Int) (w : World) (hv : SlE w v es) (hu : SlI w u h) (hhl : h.length ≤ 9223372036854775807) (hp : Pn n es) (ht : t < n) (hc : lk n es [(t : Int)] = 0) :
    Calls Try.prog 37 #[.agg #[.int .i64 n, v], .int .i64 t, u] w fun e w' => e = .returned (.int .i64 (gus n es t h)) ∧ Below w.heap.size w w' := by
  obtain ⟨a0, c0, rfl⟩ := hv.val
  have HV : Hid _ := hv
  have HU : Hid _ := hu
  have HC : Hid _ := hc
  have HP : Hid _ := hp
  have hlen := hp.len
  have hel : es.length ≤ 9223372036854775807 := by omega
  clear hv hu hc hp
  go_enter Try.func37, Try.ntmps37
  go_wp2_with fail
  have P0 : Hid _ := box2_new w (n : Int) (.slice a0 es.length c0) 24
  have B0 : Hid (Below w.heap.size w (w.alloc (.cells #[.int .i64 n, .slice a0 es.length c0] 24))) := balloc (Below.refl _ _) _
  have hz0 : (w.alloc (.cells #[.int .i64 n, .slice a0 es.length c0] 24)).heap.size = w.heap.size + 1 := by simp
  generalize w.alloc (.cells #[.int .i64 n, .slice a0 es.length c0] 24) = W0 at *
  have L1 : Hid _ := lit_nums W0 [(t : Int)] #[.int .i64 t] 1 rfl rfl
  rw [hz0] at L1
  have P1 : Hid _ := P0.out.below (balloc (Below.refl _ _) (.cells #[.int .i64 t] 3))
  have B1 : Hid (Below w.heap.size w (W0.alloc (.cells #[.int .i64 t] 3))) := balloc B0.out _
  generalize W0.alloc (.cells #[.int .i64 t] 3) = W1 at *
  clear hz0 P0 B0
  refine (look_any n _ _ es [(t : Int)] W1 (HV.out.below B1.out) L1.out hel (by simp)).mono ?_
  rintro e w2 ⟨rfl, b2⟩
  rw [HC.out]
  have B2 : Hid (Below w.heap.size w w2) := bthen B1.out b2
  have P2 : Hid _ := P1.out.below b2
  obtain ⟨p0, p1⟩ := P2.out
  clear b2 P1
  go_wp2_with fail
  refine (arecosts_any n u h w2 (HU.out.below B2.out) hhl).mono ?_
  rintro e w3 ⟨rfl, b3⟩
  have B3 : Hid (Below w.heap.size w w3) := bthen B2.out b3
  have P3 : Hid _ := P2.out.below b3
  clear b3 p0 p1 P2
  obtain ⟨p0, p1⟩ := P3.out
  by_cases h1 : acs n h = true
  · rw [h1]
    have H1 : Hid _ := h1
    obtain ⟨a1, a2⟩ := acs_yes h1
    have A2 : Hid _ := a2
    obtain ⟨b1, off1, cap1, hveq, hcl⟩ := (HU.out.below B3.out).some' (by omega)
    have l0 := hcl t (by omega)
    have e0 : h.getD ((t : Int)).toNat 0 = h.getD t 0 := by simp
    have HHL : Hid ((h.length : Int) = n) := a1
    have htn : (t : Int) < (n : Int) := by omega
    obtain rfl : h.length = n := by omega
    subst hveq
    clear hcl h1 a1 a2
    by_cases h2 : h.getD t 0 = 0
    · have H2 : Hid _ := h2
      rw [h2] at l0
      clear h2
      go_wp2_with fail
      go_loopw [30] (fun z wr => ∃ k : Nat, z = .int .i64 k ∧ k ≤ es.length ∧ (∀ i, i < k → dear h (at3 es i) = false) ∧ Below w.heap.size w wr) (fun z _ => es.length - (intOf z).toNat)
      case atStart => exact ⟨0, rfl, Nat.zero_le _, fun i hi => absurd hi (by omega), B3.out⟩
      case round =>
        clear p0 p1 P3 l0
        obtain ⟨k, rfl, hk, hin, hb⟩ := hrel
        have HI : Hid _ := hin
        have HB : Hid (Below w.heap.size w wr) := hb
        clear hin hb
        by_cases hlt : k < es.length
        · have hki : (k : Int) < (es.length : Int) := by omega
          obtain ⟨b, off, cap, hveq, hc⟩ := (HV.out.below HB.out).some' (by omega)
          simp only [Value.slice.injEq] at hveq
          obtain ⟨rfl, -, rfl⟩ := hveq
          obtain ⟨e0, e1, e2⟩ := hc k hlt
          clear hc
          have hok := HP.out.ok _ (mem_at hlt)
          have HBD : Hid ((at3 es k).2.2 + h.getD (at3 es k).2.1.toNat 0 < h.getD (at3 es k).1.toNat 0 → gus h.length es t h = 7) := fun hh => gus_dear HC.out H1.out hlt (decide_eq_true hh)
          have HGD : Hid (¬ (at3 es k).2.2 + h.getD (at3 es k).2.1.toNat 0 < h.getD (at3 es k).1.toNat 0 → ∀ i, i < k + 1 → dear h (at3 es i) = false) := fun h0 i hi => by
            rcases (show i < k ∨ i = k by omega) with h1 | rfl
            · exact HI.out i h1
            · exact decide_eq_false h0
          generalize at3 es k = p at *
          obtain ⟨x, z, c⟩ := p
          simp only at e0 e1 e2 hok
          obtain ⟨ok1, ok2, ok3, ok4, ok5, ok6⟩ := hok
          obtain ⟨x, rfl⟩ := Int.eq_ofNat_of_zero_le ok1
          obtain ⟨z, rfl⟩ := Int.eq_ofNat_of_zero_le ok3
          have hxN : x < h.length := by omega
          have hzN : z < h.length := by omega
          obtain ⟨g1, g2⟩ := A2.out x hxN
          obtain ⟨g3, g4⟩ := A2.out z hzN
          have B9 : Hid (Below w.heap.size w (wr.alloc (.cells #[.int .i64 x, .int .i64 z, .int .i64 c] 66))) := balloc HB.out _
          have Y9 : Hid _ := box3_new wr x z (.int .i64 c) 66
          go_wp2_with fail
          clear e0 e1 e2
          generalize wr.alloc (.cells #[.int .i64 x, .int .i64 z, .int .i64 c] 66) = W9 at *
          obtain ⟨y0, y1, y2⟩ := Y9.out
          obtain ⟨b2, off2, cap2, hveq, hcl⟩ := (HU.out.below B9.out).some' (by omega)
          simp only [Value.slice.injEq, Option.some.injEq, Addr.mk.injEq] at hveq
          obtain ⟨⟨rfl, rfl, -⟩, -, rfl⟩ := hveq
          have l1 := hcl x hxN
          have l2 := hcl z hzN
          simp only [Int.toNat_natCast] at HBD HGD
          obtain ⟨p, hpe⟩ : ∃ p, h.getD x 0 = p := ⟨_, rfl⟩
          rw [hpe] at HBD HGD g1 g2 l1
          obtain ⟨q, hqe⟩ : ∃ q, h.getD z 0 = q := ⟨_, rfl⟩
          rw [hqe] at HBD HGD g3 g4 l2
          clear hcl hpe hqe
          by_cases hpq : c + q < p
          · have HF : Hid _ := HBD.out hpq
            clear HBD HGD
            go_quiet (fail)
            go_wp2_with fail
            go_ret
            exact ⟨ret_int HF.out.symm, bdrewN B9.out nq⟩
          · have HF : Hid _ := HGD.out (Int.not_lt.1 hpq)
            clear HBD HGD
            go_quiet (fail)
            go_wp2_with fail
            go_roundw
            case rel => exact ⟨k + 1, by go_num, by omega, HF.out, bdrewN B9.out nq⟩
            case measure => simp [intOf]; omega
        · obtain rfl : k = es.length := by omega
          have HF : Hid (gus h.length es t h = 0) := gus_yes HC.out H1.out (by rw [e0]; exact H2.out) HI.out
          go_wp2_with fail
          go_ret
          exact ⟨ret_int HF.out.symm, HB.out⟩
    · have h3 : (h.getD t 0 != 0) = true := by simpa [bne] using h2
      have HF : Hid _ := gus_end HC.out H1.out (by rw [e0]; exact h2)
      clear h2
      generalize h.getD t 0 = x at *
      go_wp2_with fail
      go_ret
      exact ⟨ret_int HF.out.symm, B3.out⟩
  · have h1' : acs n h = false := by simpa using h1
    rw [h1']
    have HF : Hid _ := gus_costs HC.out h1'
    clear h1 h1'
    go_wp2_with fail
    go_ret
    exact ⟨ret_int HF.out.symm, B3.out⟩
end Go.Proofs.Ytefikbjjdldomaa
