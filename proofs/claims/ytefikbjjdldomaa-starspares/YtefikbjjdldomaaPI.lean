/-
  Contracts: weigh.Weight and weigh.Run, whatever is handed in.
-/
import Derived.Test.YtefikbjjdldomaaPx
import Derived.Test.YtefikbjjdldomaaWalkB
import Derived.Test.YtefikbjjdldomaaFI
namespace Go.Proofs.Ytefikbjjdldomaa
open Go.RowKit
open _root_.Go.Proofs.Ytefikbjjdldomaa.Nm Wm Dm Sk Pl

set_option maxHeartbeats 4000000 in
theorem weight_any (n d : Int) (w : World) :
    Calls Try.prog 17 #[.agg #[.int .i64 n, .int .i64 d]] w fun e w' => e = .returned (.int .i64 (wtk n d)) ∧ Below w.heap.size w w' := by
  go_enter Try.func17, Try.ntmps17
  go_wp2_with fail
  have hz : (w.alloc (.cells #[.int .i64 n, .int .i64 d] 39)).heap.size = w.heap.size + 1 := by simp
  have P0 : Hid _ := box2_new w n (.int .i64 d) 39
  have B0 : Hid (Below w.heap.size w (w.alloc (.cells #[.int .i64 n, .int .i64 d] 39))) := balloc (Below.refl _ _) _
  generalize w.alloc (.cells #[.int .i64 n, .int .i64 d] 39) = W0 at *
  refine (Ra.check_any n d W0).mono ?_
  rintro e w1 ⟨rfl, b1⟩
  have B1 : Hid (Below w.heap.size w w1) := bthen B0.out b1
  obtain ⟨p0, p1⟩ := P0.out.below b1
  clear b1 P0 hz
  by_cases hc : chk n d = 0
  · have HC : Hid _ := hc
    rw [hc]
    clear hc
    by_cases hl : n < d
    · have HE : Hid (wtk n d = 1) := by unfold Hid wtk; rw [if_neg (by simp [HC.out]), if_pos hl]
      go_wp2_with fail
      go_ret
      exact ⟨ret_int HE.out.symm, by first | exact B1.out | exact bdrewN B1.out _ | exact Below.drew B1.out⟩
    · have HE : Hid (wtk n d = 0) := by unfold Hid wtk; rw [if_neg (by simp [HC.out]), if_neg hl]
      go_wp2_with fail
      go_ret
      exact ⟨ret_int HE.out.symm, by first | exact B1.out | exact bdrewN B1.out _ | exact Below.drew B1.out⟩
  · have HE : Hid (wtk n d = chk n d) := by unfold Hid wtk; rw [if_pos hc]
    have hz : (chk n d != 0) = true := by simp [hc]
    clear hc
    go_wp2_with fail
    go_ret
    exact ⟨ret_int HE.out.symm, B1.out⟩

theorem wtk_zero {n d : Int} (h : wtk n d = 0) : d ≤ n ∧ 1 ≤ d ∧ n ≤ 1000000 := by
  unfold wtk at h
  by_cases h1 : chk n d = 0
  · rw [if_neg (by simp [h1])] at h
    have h2 : isr n d = true := by
      cases h3 : isr n d
      · rw [chk_no h3] at h1; cases h1
      · rfl
    have h3 := (isr_true h2).1
    split at h
    · cases h
    · omega
  · rw [if_pos h1] at h; exact absurd h h1
set_option maxRecDepth 100000 in
set_option maxHeartbeats 8000000 in
theorem wrun_look (n s t num den : Int) (v u : Value) (es : List E) (h : List Int) (w : World) (hv : SlE w v es) (hu : SlI w u h) (hlen : es.length ≤ 9223372036854775807) (hhl : h.length ≤ 9223372036854775807) (hc : sls n es s t h ≠ 0) :
    Calls Try.prog 19 #[.agg #[.int .i64 n, v], .int .i64 s, .int .i64 t, u, .agg #[.int .i64 num, .int .i64 den]] w fun e w' => e = .returned (.tuple #[.agg #[.slice none 0 0, .int .i64 0, .slice none 0 0], .int .i64 (sls n es s t h)]) ∧ Below w.heap.size w w' := by
  obtain ⟨a0, c0, rfl⟩ := hv.val
  obtain ⟨a1, c1, rfl⟩ := hu.val
  have HV : Hid _ := hv
  have HU : Hid _ := hu
  have hz : (sls n es s t h != 0) = true := by simp [hc]
  clear hv hu hc
  go_enter Try.func19, Try.ntmps19
  go_wp2_with fail
  obtain ⟨RB, hRB⟩ : ∃ RB, w.heap.size + 1 + 1 = RB := ⟨_, rfl⟩
  have G1 : Hid (Box2 (((w.alloc (.cells #[.int .i64 n, .slice a0 es.length c0] 24)).alloc (.cells #[.int .i64 num, .int .i64 den] 39)).alloc (.cells #[.slice none 0 0, .int .i64 0, .slice none 0 0] 29)) w.heap.size n (.slice a0 es.length c0)) := (box2_new w n (.slice a0 es.length c0) 24).below (balloc (balloc (Below.refl _ _) _) _)
  have Q1 : Hid (Box2 (((w.alloc (.cells #[.int .i64 n, .slice a0 es.length c0] 24)).alloc (.cells #[.int .i64 num, .int .i64 den] 39)).alloc (.cells #[.slice none 0 0, .int .i64 0, .slice none 0 0] 29)) (w.heap.size + 1) num (.int .i64 den)) := by
    have h1 := (box2_new (w.alloc (.cells #[.int .i64 n, .slice a0 es.length c0] 24)) num (.int .i64 den) 39).below (balloc (Below.refl _ _) (.cells #[.slice none 0 0, .int .i64 0, .slice none 0 0] 29))
    unfold Hid; simpa using h1
  have R1 : Hid (Rb (((w.alloc (.cells #[.int .i64 n, .slice a0 es.length c0] 24)).alloc (.cells #[.int .i64 num, .int .i64 den] 39)).alloc (.cells #[.slice none 0 0, .int .i64 0, .slice none 0 0] 29)) RB (.slice none 0 0) (.int .i64 0) (.slice none 0 0)) := ⟨by rw [← hRB]; exact new_at _ _ (by simp)⟩
  have RL : Hid (w.heap.size ≤ RB) := by unfold Hid; omega
  have B1 : Hid (Below w.heap.size w (((w.alloc (.cells #[.int .i64 n, .slice a0 es.length c0] 24)).alloc (.cells #[.int .i64 num, .int .i64 den] 39)).alloc (.cells #[.slice none 0 0, .int .i64 0, .slice none 0 0] 29))) := balloc (balloc (balloc (Below.refl _ _) _) _) _
  rw [hRB]
  clear hRB
  generalize ((w.alloc (.cells #[.int .i64 n, .slice a0 es.length c0] 24)).alloc (.cells #[.int .i64 num, .int .i64 den] 39)).alloc (.cells #[.slice none 0 0, .int .i64 0, .slice none 0 0] 29) = W1 at *
  obtain ⟨QB, hQB⟩ : ∃ QB, w.heap.size + 1 = QB := ⟨_, rfl⟩
  rw [hQB] at Q1 ⊢
  clear hQB
  refine (slook_any n s t _ _ es h W1 (HV.out.below B1.out) (HU.out.below B1.out) hlen hhl).mono ?_
  rintro e w2 ⟨rfl, b2⟩
  have B2 : Hid (Below w.heap.size w w2) := bthen B1.out b2
  have R2 : Hid _ := R1.out.below b2
  have Q2 : Hid _ := Q1.out.below b2
  have G2 : Hid _ := G1.out.below b2
  obtain ⟨k0, k1, k2⟩ := R2.out.cell
  obtain ⟨z0, z1, z2⟩ := R2.out.frozen
  obtain ⟨q0, q1⟩ := Q2.out
  clear b2
  go_wp2_with fail
  have R3 : Hid _ := R2.out.put (.slice none 0 0) (.int .i64 0) (.slice none 0 0)
  have B3 : Hid _ := rb_below B2.out RL.out (.slice none 0 0) (.int .i64 0) (.slice none 0 0)
  generalize ((w2.setCell ⟨RB, 0, none⟩ (.slice none 0 0)).setCell ⟨RB, 1, none⟩ (.int .i64 0)).setCell ⟨RB, 2, none⟩ (.slice none 0 0) = W3 at *
  clear k0 k1 k2 z0 z1 z2
  obtain ⟨k0, k1, k2⟩ := R3.out.cell
  exact bodyPost_ret (v := .tuple #[.agg #[.slice none 0 0, .int .i64 0, .slice none 0 0], .int .i64 (sls n es s t h)]) (by simp [results, Try.results19, go_sem, k0, k1, k2]) rfl ⟨rfl, B3.out⟩
set_option maxRecDepth 100000 in
set_option maxHeartbeats 8000000 in
theorem wrun_weight (n s t num den : Int) (v u : Value) (es : List E) (h : List Int) (w : World) (hv : SlE w v es) (hu : SlI w u h) (hlen : es.length ≤ 9223372036854775807) (hhl : h.length ≤ 9223372036854775807) (hc : sls n es s t h = 0) (hw : wtk num den ≠ 0) :
    Calls Try.prog 19 #[.agg #[.int .i64 n, v], .int .i64 s, .int .i64 t, u, .agg #[.int .i64 num, .int .i64 den]] w fun e w' => e = .returned (.tuple #[.agg #[.slice none 0 0, .int .i64 0, .slice none 0 0], .int .i64 (wtk num den)]) ∧ Below w.heap.size w w' := by
  obtain ⟨a0, c0, rfl⟩ := hv.val
  obtain ⟨a1, c1, rfl⟩ := hu.val
  have HV : Hid _ := hv
  have HU : Hid _ := hu
  have hz : (wtk num den != 0) = true := by simp [hw]
  have HC : Hid _ := hc
  clear hv hu hc hw
  go_enter Try.func19, Try.ntmps19
  go_wp2_with fail
  obtain ⟨RB, hRB⟩ : ∃ RB, w.heap.size + 1 + 1 = RB := ⟨_, rfl⟩
  have G1 : Hid (Box2 (((w.alloc (.cells #[.int .i64 n, .slice a0 es.length c0] 24)).alloc (.cells #[.int .i64 num, .int .i64 den] 39)).alloc (.cells #[.slice none 0 0, .int .i64 0, .slice none 0 0] 29)) w.heap.size n (.slice a0 es.length c0)) := (box2_new w n (.slice a0 es.length c0) 24).below (balloc (balloc (Below.refl _ _) _) _)
  have Q1 : Hid (Box2 (((w.alloc (.cells #[.int .i64 n, .slice a0 es.length c0] 24)).alloc (.cells #[.int .i64 num, .int .i64 den] 39)).alloc (.cells #[.slice none 0 0, .int .i64 0, .slice none 0 0] 29)) (w.heap.size + 1) num (.int .i64 den)) := by
    have h1 := (box2_new (w.alloc (.cells #[.int .i64 n, .slice a0 es.length c0] 24)) num (.int .i64 den) 39).below (balloc (Below.refl _ _) (.cells #[.slice none 0 0, .int .i64 0, .slice none 0 0] 29))
    unfold Hid; simpa using h1
  have R1 : Hid (Rb (((w.alloc (.cells #[.int .i64 n, .slice a0 es.length c0] 24)).alloc (.cells #[.int .i64 num, .int .i64 den] 39)).alloc (.cells #[.slice none 0 0, .int .i64 0, .slice none 0 0] 29)) RB (.slice none 0 0) (.int .i64 0) (.slice none 0 0)) := ⟨by rw [← hRB]; exact new_at _ _ (by simp)⟩
  have RL : Hid (w.heap.size ≤ RB) := by unfold Hid; omega
  have B1 : Hid (Below w.heap.size w (((w.alloc (.cells #[.int .i64 n, .slice a0 es.length c0] 24)).alloc (.cells #[.int .i64 num, .int .i64 den] 39)).alloc (.cells #[.slice none 0 0, .int .i64 0, .slice none 0 0] 29))) := balloc (balloc (balloc (Below.refl _ _) _) _) _
  rw [hRB]
  clear hRB
  generalize ((w.alloc (.cells #[.int .i64 n, .slice a0 es.length c0] 24)).alloc (.cells #[.int .i64 num, .int .i64 den] 39)).alloc (.cells #[.slice none 0 0, .int .i64 0, .slice none 0 0] 29) = W1 at *
  obtain ⟨QB, hQB⟩ : ∃ QB, w.heap.size + 1 = QB := ⟨_, rfl⟩
  rw [hQB] at Q1 ⊢
  clear hQB
  refine (slook_any n s t _ _ es h W1 (HV.out.below B1.out) (HU.out.below B1.out) hlen hhl).mono ?_
  rintro e w2 ⟨rfl, b2⟩
  have B2 : Hid (Below w.heap.size w w2) := bthen B1.out b2
  have R2 : Hid _ := R1.out.below b2
  have Q2 : Hid _ := Q1.out.below b2
  have G2 : Hid _ := G1.out.below b2
  obtain ⟨k0, k1, k2⟩ := R2.out.cell
  obtain ⟨z0, z1, z2⟩ := R2.out.frozen
  obtain ⟨q0, q1⟩ := Q2.out
  rw [HC.out]
  clear b2
  go_wp2_with fail
  refine (weight_any num den _).mono ?_
  rintro e w3 ⟨rfl, b3⟩
  have B3 : Hid (Below w.heap.size w w3) := bthen B2.out b3
  have R3 : Hid _ := R2.out.below b3
  clear k0 k1 k2 z0 z1 z2 q0 q1 b3
  obtain ⟨k0, k1, k2⟩ := R3.out.cell
  obtain ⟨z0, z1, z2⟩ := R3.out.frozen
  go_wp2_with fail
  have R4 : Hid _ := R3.out.put (.slice none 0 0) (.int .i64 0) (.slice none 0 0)
  have B4 : Hid _ := rb_below B3.out RL.out (.slice none 0 0) (.int .i64 0) (.slice none 0 0)
  generalize ((w3.setCell ⟨RB, 0, none⟩ (.slice none 0 0)).setCell ⟨RB, 1, none⟩ (.int .i64 0)).setCell ⟨RB, 2, none⟩ (.slice none 0 0) = W4 at *
  clear k0 k1 k2 z0 z1 z2
  obtain ⟨k0, k1, k2⟩ := R4.out.cell
  exact bodyPost_ret (v := .tuple #[.agg #[.slice none 0 0, .int .i64 0, .slice none 0 0], .int .i64 (wtk num den)]) (by simp [results, Try.results19, go_sem, k0, k1, k2]) rfl ⟨rfl, B4.out⟩
set_option maxRecDepth 100000 in
set_option maxHeartbeats 8000000 in
theorem wrun_yes (n s t : Nat) (num den : Int) (v u : Value) (es : List E) (h : List Int) (w : World) (hv : SlE w v es) (hu : SlI w u h) (hlen : es.length ≤ 9223372036854775807) (hhl : h.length ≤ 9223372036854775807) (hs : s < n) (ht : t < n) (hp : Pn n es) (hc : sls n es s t h = 0) (hw : wtk num den = 0) (hln : h.length = n) (hrg : ∀ v, v < n → 0 ≤ h.getD v 0 ∧ h.getD v 0 ≤ 1099511627776) :
    Calls Try.prog 19 #[.agg #[.int .i64 n, v], .int .i64 s, .int .i64 t, u, .agg #[.int .i64 num, .int .i64 den]] w fun e w' => Bk9 w n es h s t (fun c g => den * c + num * g) e w' := by
  obtain ⟨a0, c0, rfl⟩ := hv.val
  obtain ⟨a1, c1, rfl⟩ := hu.val
  have HV : Hid _ := hv
  have HU : Hid _ := hu
  have HC : Hid _ := hc
  have HW : Hid _ := hw
  have HP : Hid _ := hp
  have HRG : Hid _ := hrg
  have HLN : Hid _ := hln
  have HZ : Hid _ := wtk_zero hw
  clear hv hu hc hrg hp hln hw
  go_enter Try.func19, Try.ntmps19
  go_wp2_with fail
  obtain ⟨RB, hRB⟩ : ∃ RB, w.heap.size + 1 + 1 = RB := ⟨_, rfl⟩
  have G1 : Hid (Box2 (((w.alloc (.cells #[.int .i64 n, .slice a0 es.length c0] 24)).alloc (.cells #[.int .i64 num, .int .i64 den] 39)).alloc (.cells #[.slice none 0 0, .int .i64 0, .slice none 0 0] 29)) w.heap.size n (.slice a0 es.length c0)) := (box2_new w n (.slice a0 es.length c0) 24).below (balloc (balloc (Below.refl _ _) _) _)
  have Q1 : Hid (Box2 (((w.alloc (.cells #[.int .i64 n, .slice a0 es.length c0] 24)).alloc (.cells #[.int .i64 num, .int .i64 den] 39)).alloc (.cells #[.slice none 0 0, .int .i64 0, .slice none 0 0] 29)) (w.heap.size + 1) num (.int .i64 den)) := by
    have h1 := (box2_new (w.alloc (.cells #[.int .i64 n, .slice a0 es.length c0] 24)) num (.int .i64 den) 39).below (balloc (Below.refl _ _) (.cells #[.slice none 0 0, .int .i64 0, .slice none 0 0] 29))
    unfold Hid; simpa using h1
  have R1 : Hid (Rb (((w.alloc (.cells #[.int .i64 n, .slice a0 es.length c0] 24)).alloc (.cells #[.int .i64 num, .int .i64 den] 39)).alloc (.cells #[.slice none 0 0, .int .i64 0, .slice none 0 0] 29)) RB (.slice none 0 0) (.int .i64 0) (.slice none 0 0)) := ⟨by rw [← hRB]; exact new_at _ _ (by simp)⟩
  have RL : Hid (w.heap.size ≤ RB) := by unfold Hid; omega
  have B1 : Hid (Below w.heap.size w (((w.alloc (.cells #[.int .i64 n, .slice a0 es.length c0] 24)).alloc (.cells #[.int .i64 num, .int .i64 den] 39)).alloc (.cells #[.slice none 0 0, .int .i64 0, .slice none 0 0] 29))) := balloc (balloc (balloc (Below.refl _ _) _) _) _
  rw [hRB]
  clear hRB
  generalize ((w.alloc (.cells #[.int .i64 n, .slice a0 es.length c0] 24)).alloc (.cells #[.int .i64 num, .int .i64 den] 39)).alloc (.cells #[.slice none 0 0, .int .i64 0, .slice none 0 0] 29) = W1 at *
  obtain ⟨QB, hQB⟩ : ∃ QB, w.heap.size + 1 = QB := ⟨_, rfl⟩
  rw [hQB] at Q1 ⊢
  clear hQB
  refine (slook_any n s t _ _ es h W1 (HV.out.below B1.out) (HU.out.below B1.out) hlen hhl).mono ?_
  rintro e w2 ⟨rfl, b2⟩
  have B2 : Hid (Below w.heap.size w w2) := bthen B1.out b2
  have R2 : Hid _ := R1.out.below b2
  have Q2 : Hid _ := Q1.out.below b2
  have G2 : Hid _ := G1.out.below b2
  obtain ⟨k0, k1, k2⟩ := R2.out.cell
  obtain ⟨z0, z1, z2⟩ := R2.out.frozen
  obtain ⟨q0, q1⟩ := Q2.out
  rw [HC.out]
  clear b2
  go_wp2_with fail
  refine (weight_any num den _).mono ?_
  rintro e w3 ⟨rfl, b3⟩
  have B3 : Hid (Below w.heap.size w w3) := bthen B2.out b3
  have R3 : Hid _ := R2.out.below b3
  have Q3 : Hid _ := Q2.out.below b3
  obtain ⟨g0, g1⟩ := G2.out.below b3
  clear k0 k1 k2 z0 z1 z2 q0 q1 b3
  obtain ⟨k0, k1, k2⟩ := R3.out.cell
  obtain ⟨z0, z1, z2⟩ := R3.out.frozen
  obtain ⟨q0, q1⟩ := Q3.out
  rw [HW.out]
  have FX : Hid (Fx w3 ⟨n, .slice a0 es.length c0, .slice a1 h.length c1, 46, #[.pointer (some ⟨QB, 0, none⟩)]⟩ es h s (fun c g => den * c + num * g)) := by
    obtain ⟨z1, z2, z3⟩ := HZ.out
    exact ⟨HP.out, HV.out.below B3.out, HU.out.below B3.out, HLN.out, HRG.out, pweighkey w3 QB num den q0 q1 (by omega) z3 (by omega) (by omega), fun x y g hxy => by have := Int.mul_le_mul_of_nonneg_left hxy (show 0 ≤ den by omega); omega, hs⟩
  have BY : Hid _ := fun (_ : Unit) => byKeys_any FX.out t ht
  go_wp2_with fail
  refine (BY.out ()).mono ?_
  rintro e w4 (⟨h1, rfl, b4⟩ | ⟨s', o, vp, vo, h1, rfl, s1, s2, b4⟩)
  · have H1 : Hid _ := h1
    have B4 : Hid (Below w.heap.size w w4) := bthen B3.out b4
    have R4 : Hid _ := R3.out.below b4
    clear k0 k1 k2 z0 z1 z2 q0 q1 h1 b4 BY
    obtain ⟨k0, k1, k2⟩ := R4.out.cell
    obtain ⟨z0, z1, z2⟩ := R4.out.frozen
    go_wp2_with fail
    have R5 : Hid _ := R4.out.put (.slice none 0 0) (.int .i64 0) (.slice none 0 0)
    have B5 : Hid _ := rb_below B4.out RL.out (.slice none 0 0) (.int .i64 0) (.slice none 0 0)
    generalize ((w4.setCell ⟨RB, 0, none⟩ (.slice none 0 0)).setCell ⟨RB, 1, none⟩ (.int .i64 0)).setCell ⟨RB, 2, none⟩ (.slice none 0 0) = W5 at *
    clear k0 k1 k2 z0 z1 z2
    obtain ⟨k0, k1, k2⟩ := R5.out.cell
    exact bodyPost_ret (v := .tuple #[.agg #[.slice none 0 0, .int .i64 0, .slice none 0 0], .int .i64 5]) (by simp [results, Try.results19, go_sem, k0, k1, k2]) rfl (.inl ⟨H1.out, rfl, B5.out⟩)
  · have H1 : Hid _ := h1
    have B4 : Hid (Below w.heap.size w w4) := bthen B3.out b4
    have R4 : Hid _ := R3.out.below b4
    obtain ⟨ap, cp, rfl⟩ := s1.sl.val
    obtain ⟨ao, co, rfl⟩ := s2.sl.val
    have RX : Hid (RB < w3.heap.size) := R3.out.lt
    obtain ⟨lp, hlp⟩ : ∃ lp, (ints (way s' s t)).length = lp := ⟨_, rfl⟩
    obtain ⟨lo, hlo⟩ : ∃ lo, (ints o).length = lo := ⟨_, rfl⟩
    obtain ⟨ct, hct⟩ : ∃ ct, s'.c t = ct := ⟨_, rfl⟩
    rw [hlp] at s1 ⊢
    rw [hlo] at s2 ⊢
    rw [hct]
    have S1 : Hid _ := s1
    have S2 : Hid _ := s2
    have HCT : Hid _ := hct
    clear k0 k1 k2 z0 z1 z2 q0 q1 h1 b4 BY s1 s2 hlp hlo hct
    obtain ⟨k0, k1, k2⟩ := R4.out.cell
    obtain ⟨z0, z1, z2⟩ := R4.out.frozen
    go_wp2_with fail
    have R5 : Hid _ := R4.out.put (.slice ap lp cp) (.int .i64 ct) (.slice ao lo co)
    have B5 : Hid _ := rb_below B4.out RL.out (.slice ap lp cp) (.int .i64 ct) (.slice ao lo co)
    have S3 : Hid (Is (((w4.setCell ⟨RB, 0, none⟩ (.slice ap lp cp)).setCell ⟨RB, 1, none⟩ (.int .i64 ct)).setCell ⟨RB, 2, none⟩ (.slice ao lo co)) w3.heap.size (.slice ap lp cp) (ints (way s' s t))) := ((S1.out.other RX.out).other RX.out).other RX.out
    have S4 : Hid (Is (((w4.setCell ⟨RB, 0, none⟩ (.slice ap lp cp)).setCell ⟨RB, 1, none⟩ (.int .i64 ct)).setCell ⟨RB, 2, none⟩ (.slice ao lo co)) w3.heap.size (.slice ao lo co) (ints o)) := ((S2.out.other RX.out).other RX.out).other RX.out
    generalize ((w4.setCell ⟨RB, 0, none⟩ (.slice ap lp cp)).setCell ⟨RB, 1, none⟩ (.int .i64 ct)).setCell ⟨RB, 2, none⟩ (.slice ao lo co) = W5 at *
    clear k0 k1 k2 z0 z1 z2
    obtain ⟨k0, k1, k2⟩ := R5.out.cell
    refine bodyPost_ret (v := .tuple #[.agg #[.slice ap lp cp, .int .i64 ct, .slice ao lo co], .int .i64 0]) (by simp [results, Try.results19, go_sem, k0, k1, k2]) rfl (.inr ⟨s', o, _, _, H1.out, ?_, S3.out.mono B3.out.size, S4.out.mono B3.out.size, B5.out⟩)
    rw [HCT.out]
end Go.Proofs.Ytefikbjjdldomaa
