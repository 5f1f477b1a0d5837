/-
  Contract: the document's Guess.
-/
import Derived.Test.YtefikbjjdldomaaEC
namespace Go.Proofs.Ytefikbjjdldomaa
open Go.RowKit
open Nm Wm Dm

set_option maxRecDepth 100000 in
set_option maxHeartbeats 8000000 in
theorem rguess_look (n t : Int) (v u : Value) (es : List E) (h : List Int) (w : World) (hv : SlE w v es) (hu : SlI w u h) (hlen : es.length ≤ 9223372036854775807) (hc : lk n es [t] ≠ 0) :
    Calls Try.prog 36 #[.agg #[.int .i64 n, v], .int .i64 t, u] w fun e w' => e = .returned (.int .i64 (gus n es t h)) ∧ Below w.heap.size w w' := by
  rw [gus_look h hc]
  obtain ⟨a0, c0, rfl⟩ := hv.val
  obtain ⟨a1, c1, rfl⟩ := hu.val
  have HV : Hid _ := hv
  have hz : (lk n es [t] != 0) = true := by simp [hc]
  clear hv hc hu
  go_enter Try.func36, Try.ntmps36
  go_wp2_with fail
  have B0 : Hid (Below w.heap.size w ((w.alloc (.cells #[.int .i64 n, .slice a0 es.length c0] 24)).alloc (.cells #[.slice a1 h.length c1] 25))) := balloc (balloc (Below.refl _ _) _) _
  have hz0 : ((w.alloc (.cells #[.int .i64 n, .slice a0 es.length c0] 24)).alloc (.cells #[.slice a1 h.length c1] 25)).heap.size = w.heap.size + 2 := by simp
  generalize (w.alloc (.cells #[.int .i64 n, .slice a0 es.length c0] 24)).alloc (.cells #[.slice a1 h.length c1] 25) = W0 at *
  have L1 : Hid _ := lit_nums W0 [t] #[.int .i64 t] 1 rfl rfl
  rw [hz0] at L1
  have B1 : Hid (Below w.heap.size w (W0.alloc (.cells #[.int .i64 t] 3))) := balloc B0.out _
  generalize W0.alloc (.cells #[.int .i64 t] 3) = W1 at *
  clear hz0
  refine (rlook_any n _ _ es [t] W1 (HV.out.below B1.out) L1.out hlen (by simp)).mono ?_
  rintro e w2 ⟨rfl, b2⟩
  go_wp2_with fail
  go_ret
  exact ⟨rfl, bthen B1.out b2⟩
set_option maxRecDepth 100000 in
set_option maxHeartbeats 16000000 in
theorem rguess_in (n t : Nat) (v u : Value) (es : List E) (h : List Int) (w : World) (hv : SlE w v es) (hu : SlI w u h) (hp : Pn n es) (ht : t < n) (hc : lk n es [(t : Int)] = 0) :
    Calls Try.prog 36 #[.agg #[.int .i64 n, v], .int .i64 t, u] w fun e w' => e = .returned (.int .i64 (gus n es t h)) ∧ Below w.heap.size w w' := by
  obtain ⟨a0, c0, rfl⟩ := hv.val
  obtain ⟨a1, c1, rfl⟩ := hu.val
  have HV : Hid _ := hv
  have HU : Hid _ := hu
  have HC : Hid _ := hc
  have HP : Hid _ := hp
  have hlen := hp.len
  have hn1 := hp.n1
  have hn64 := hp.n64
  have hel : es.length ≤ 9223372036854775807 := by omega
  clear hv hu hc hp
  go_enter Try.func36, Try.ntmps36
  go_wp2_with fail
  have P0 : Hid _ := (box2_new w (n : Int) (.slice a0 es.length c0) 24).below (balloc (Below.refl _ _) (.cells #[.slice a1 h.length c1] 25))
  have hz : (w.alloc (.cells #[.int .i64 n, .slice a0 es.length c0] 24)).heap.size = w.heap.size + 1 := by simp
  have C0 : Hid _ := cell_new (w.alloc (.cells #[.int .i64 n, .slice a0 es.length c0] 24)) #[.slice a1 h.length c1] 25 0 _ rfl
  rw [hz] at C0
  have B0 : Hid (Below w.heap.size w ((w.alloc (.cells #[.int .i64 n, .slice a0 es.length c0] 24)).alloc (.cells #[.slice a1 h.length c1] 25))) := balloc (balloc (Below.refl _ _) _) _
  have hz0 : ((w.alloc (.cells #[.int .i64 n, .slice a0 es.length c0] 24)).alloc (.cells #[.slice a1 h.length c1] 25)).heap.size = w.heap.size + 2 := by simp
  generalize (w.alloc (.cells #[.int .i64 n, .slice a0 es.length c0] 24)).alloc (.cells #[.slice a1 h.length c1] 25) = W0 at *
  have L1 : Hid _ := lit_nums W0 [(t : Int)] #[.int .i64 t] 1 rfl rfl
  rw [hz0] at L1
  have P1 : Hid _ := P0.out.below (balloc (Below.refl _ _) (.cells #[.int .i64 t] 3))
  have C1 : Hid _ := kept (balloc (Below.refl W0.heap.size W0) (.cells #[.int .i64 t] 3)) C0.out
  have B1 : Hid (Below w.heap.size w (W0.alloc (.cells #[.int .i64 t] 3))) := balloc B0.out _
  generalize W0.alloc (.cells #[.int .i64 t] 3) = W1 at *
  clear hz hz0 P0 B0 C0
  refine (rlook_any n _ _ es [(t : Int)] W1 (HV.out.below B1.out) L1.out hel (by simp)).mono ?_
  rintro e w2 ⟨rfl, b2⟩
  rw [HC.out]
  have B2 : Hid (Below w.heap.size w w2) := bthen B1.out b2
  have P2 : Hid _ := P1.out.below b2
  have C2 : Hid _ := kept b2 C1.out
  obtain ⟨p0, p1⟩ := P2.out
  have c2 := C2.out
  clear b2 P1 C1
  by_cases hn : h.length = n
  · have e1 : ((h.length : Int) != (n : Int)) = false := by simp [hn]
    have hpos : 0 < h.length := by omega
    have HNN : Hid (h.length = n) := hn
    have h100 : h.length ≤ 100 := by omega
    have hti : (t : Int) < (h.length : Int) := by omega
    clear hn
    go_wp2_with fail
    refine (min_any h _ w2 (HU.out.below B2.out) hpos h100).mono ?_
    rintro e w3 ⟨rfl, rfl⟩
    have HMM : Hid _ := mn_mx hpos
    by_cases hm : mn h h.length < 0
    · have HF : Hid (gus n es t h = 1) := gus_costs HC.out (by
        cases e : acs n h
        · rfl
        · unfold acs at e; rw [Bool.and_eq_true] at e; have := HMM.out.1 e.2; omega)
      generalize mn h h.length = m1 at *
      clear HMM
      go_wp2_with fail
      go_ret
      exact ⟨ret_int HF.out.symm, B2.out⟩
    · obtain ⟨m1, hm1⟩ : ∃ m1, mn h h.length = m1 := ⟨_, rfl⟩
      rw [hm1] at HMM hm ⊢
      clear hm1
      have HM : Hid _ := hm
      go_wp2_with fail
      refine (max_any h _ w3 (HU.out.below B2.out) hpos h100).mono ?_
      rintro e w4 ⟨rfl, rfl⟩
      by_cases hx : 1099511627776 < mx h h.length
      · have HF : Hid (gus n es t h = 1) := gus_costs HC.out (by
          cases e : acs n h
          · rfl
          · unfold acs at e; rw [Bool.and_eq_true] at e; have := HMM.out.1 e.2; omega)
        generalize mx h h.length = m2 at *
        clear HMM
        go_wp2_with fail
        go_ret
        exact ⟨ret_int HF.out.symm, B2.out⟩
      · have HA : Hid (acs n h = true) := by
          unfold Hid acs
          rw [decide_eq_true (by rw [HNN.out]), HMM.out.2 (by have := HM.out; omega)]; rfl
        clear HMM
        generalize mx h h.length = m2 at *
        have HH : Hid _ := (acs_yes HA.out).2
        obtain ⟨b1, off1, cap1, hveq, hcl⟩ := (HU.out.below B2.out).some' hpos
        simp only [Value.slice.injEq] at hveq
        obtain ⟨rfl, -, rfl⟩ := hveq
        have l0 := hcl t (by omega)
        obtain ⟨g1, g2⟩ := HH.out t (by omega)
        have e0 : h.getD ((t : Int)).toNat 0 = h.getD t 0 := by simp
        clear hcl
        by_cases h2 : h.getD t 0 = 0
        · have H2 : Hid (h.getD ((t : Int)).toNat 0 = 0) := by rw [e0]; exact h2
          rw [h2] at l0
          clear h2 g1 g2 e0
          go_wp2_with fail
          refine (cong_any n (w.heap.size + 1) _ es h _ (HV.out.below B2.out) HP.out ⟨_, C2.out, HU.out.below B2.out⟩ HNN.out HH.out).mono ?_
          rintro e w5 ⟨rfl, b5⟩
          have B5 : Hid (Below w.heap.size w w5) := bthen B2.out b5
          clear b5
          cases hq : es.any (dear h)
          · have HF : Hid (gus n es t h = 0) := by
              unfold Hid gus
              rw [if_neg (by simp [HC.out]), if_neg (by simp [HA.out]), if_neg (by rw [H2.out, hq]; simp)]
            clear hq
            go_wp2_with fail
            go_ret
            exact ⟨ret_int HF.out.symm, B5.out⟩
          · have HF : Hid (gus n es t h = 7) := by
              unfold Hid gus
              rw [if_neg (by simp [HC.out]), if_neg (by simp [HA.out]), if_pos (.inr hq)]
            clear hq
            go_wp2_with fail
            go_ret
            exact ⟨ret_int HF.out.symm, B5.out⟩
        · have HF : Hid (gus n es t h = 7) := gus_end HC.out HA.out (by rw [e0]; exact h2)
          obtain ⟨x, hxe⟩ : ∃ x, h.getD t 0 = x := ⟨_, rfl⟩
          rw [hxe] at l0 g1 g2 h2
          have h3 : 0 < x := by omega
          clear h2 hxe e0
          go_wp2_with fail
          go_ret
          exact ⟨ret_int HF.out.symm, B2.out⟩
  · have e1 : ((h.length : Int) != (n : Int)) = true := by simp; omega
    have HF : Hid (gus n es t h = 1) := gus_costs HC.out (acs_len (by omega))
    clear hn
    go_wp2_with fail
    go_ret
    exact ⟨ret_int HF.out.symm, B2.out⟩
end Go.Proofs.Ytefikbjjdldomaa
