/-
  Contracts: weigh.Weight and weigh.Run, whatever is handed in. What star.Run and weigh.Run answer, whatever is handed in, as one function of the input. Contracts of the laws' helpers: walks, once, times. What a search has found is a walk: its cost, its ends. The costs of a net are there.
-/
import Derived.Test.YtefikbjjdldomaaPx
import Derived.Test.YtefikbjjdldomaaQC
import Derived.Test.YtefikbjjdldomaaFC
import Derived.Test.YtefikbjjdldomaaWB
import Derived.Test.YtefikbjjdldomaaSl
import Derived.Test.YtefikbjjdldomaaPA
import Derived.Test.YtefikbjjdldomaaDN
namespace Go.Proofs.Ytefikbjjdldomaa
open Go.RowKit
open _root_.Go.Proofs.Ytefikbjjdldomaa.Nm Wm Dm Sk Pl

set_option maxHeartbeats 4000000 in
theorem weight_any (n d : Int) (w : World) :
    Calls Try.prog 17 #[.agg #[.int .i64 n, .int .i64 d]] w fun e w' => e = .returned (.int .i64 (wtk n d)) ∧ Below w.heap.size w w' := by
  go_enter Try.func17, Try.ntmps17
  go_wp2_with fail
  have hz : (w.alloc (.cells #[.int .i64 n, .int .i64 d] 39)).heap.size = w.heap.size + 1 := by simp
  have P0 : Hid _ := box2_new w n (.int .i64 d) 39
  have B0 : Hid (Below w.heap.size w (w.alloc (.cells #[.int .i64 n, .int .i64 d] 39))) := balloc (Below.refl _ _) _
  generalize w.alloc (.cells #[.int .i64 n, .int .i64 d] 39) = W0 at *
  refine (Ra.check_any n d W0).mono ?_
  rintro e w1 ⟨rfl, b1⟩
  have B1 : Hid (Below w.heap.size w w1) := bthen B0.out b1
  obtain ⟨p0, p1⟩ := P0.out.below b1
  clear b1 P0 hz
  by_cases hc : chk n d = 0
  · have HC : Hid _ := hc
    rw [hc]
    clear hc
    by_cases hl : n < d
    · have HE : Hid (wtk n d = 1) := by unfold Hid wtk; rw [if_neg (by simp [HC.out]), if_pos hl]
      go_wp2_with fail
      go_ret
      exact ⟨ret_int HE.out.symm, by first | exact B1.out | exact bdrewN B1.out _ | exact Below.drew B1.out⟩
    · have HE : Hid (wtk n d = 0) := by unfold Hid wtk; rw [if_neg (by simp [HC.out]), if_neg hl]
      go_wp2_with fail
      go_ret
      exact ⟨ret_int HE.out.symm, by first | exact B1.out | exact bdrewN B1.out _ | exact Below.drew B1.out⟩
  · have HE : Hid (wtk n d = chk n d) := by unfold Hid wtk; rw [if_pos hc]
    have hz : (chk n d != 0) = true := by simp [hc]
    clear hc
    go_wp2_with fail
    go_ret
    exact ⟨ret_int HE.out.symm, B1.out⟩

theorem wtk_zero {n d : Int} (h : wtk n d = 0) : d ≤ n ∧ 1 ≤ d ∧ n ≤ 1000000 := by
  unfold wtk at h
  by_cases h1 : chk n d = 0
  · rw [if_neg (by simp [h1])] at h
    have h2 : isr n d = true := by
      cases h3 : isr n d
      · rw [chk_no h3] at h1; cases h1
      · rfl
    have h3 := (isr_true h2).1
    split at h
    · cases h
    · omega
  · rw [if_pos h1] at h; exact absurd h h1
set_option maxRecDepth 100000 in
set_option maxHeartbeats 8000000 in
theorem wrun_look (n s t num den : Int) (v u : Value) (es : List E) (h : List Int) (w : World) (hv : SlE w v es) (hu : SlI w u h) (hlen : es.length ≤ 9223372036854775807) (hhl : h.length ≤ 9223372036854775807) (hc : sls n es s t h ≠ 0) :
    Calls Try.prog 19 #[.agg #[.int .i64 n, v], .int .i64 s, .int .i64 t, u, .agg #[.int .i64 num, .int .i64 den]] w fun e w' => e = .returned (.tuple #[.agg #[.slice none 0 0, .int .i64 0, .slice none 0 0], .int .i64 (sls n es s t h)]) ∧ Below w.heap.size w w' := by
  obtain ⟨a0, c0, rfl⟩ := hv.val
  obtain ⟨a1, c1, rfl⟩ := hu.val
  have HV : Hid _ := hv
  have HU : Hid _ := hu
  have hz : (sls n es s t h != 0) = true := by simp [hc]
  clear hv hu hc
  go_enter Try.func19, Try.ntmps19
  go_wp2_with fail
  obtain ⟨RB, hRB⟩ : ∃ RB, w.heap.size + 1 + 1 = RB := ⟨_, rfl⟩
  have G1 : Hid (Box2 (((w.alloc (.cells #[.int .i64 n, .slice a0 es.length c0] 24)).alloc (.cells #[.int .i64 num, .int .i64 den] 39)).alloc (.cells #[.slice none 0 0, .int .i64 0, .slice none 0 0] 29)) w.heap.size n (.slice a0 es.length c0)) := (box2_new w n (.slice a0 es.length c0) 24).below (balloc (balloc (Below.refl _ _) _) _)
  have Q1 : Hid (Box2 (((w.alloc (.cells #[.int .i64 n, .slice a0 es.length c0] 24)).alloc (.cells #[.int .i64 num, .int .i64 den] 39)).alloc (.cells #[.slice none 0 0, .int .i64 0, .slice none 0 0] 29)) (w.heap.size + 1) num (.int .i64 den)) := by
    have h1 := (box2_new (w.alloc (.cells #[.int .i64 n, .slice a0 es.length c0] 24)) num (.int .i64 den) 39).below (balloc (Below.refl _ _) (.cells #[.slice none 0 0, .int .i64 0, .slice none 0 0] 29))
    unfold Hid; simpa using h1
  have R1 : Hid (Rb (((w.alloc (.cells #[.int .i64 n, .slice a0 es.length c0] 24)).alloc (.cells #[.int .i64 num, .int .i64 den] 39)).alloc (.cells #[.slice none 0 0, .int .i64 0, .slice none 0 0] 29)) RB (.slice none 0 0) (.int .i64 0) (.slice none 0 0)) := ⟨by rw [← hRB]; exact new_at _ _ (by simp)⟩
  have RL : Hid (w.heap.size ≤ RB) := by unfold Hid; omega
  have B1 : Hid (Below w.heap.size w (((w.alloc (.cells #[.int .i64 n, .slice a0 es.length c0] 24)).alloc (.cells #[.int .i64 num, .int .i64 den] 39)).alloc (.cells #[.slice none 0 0, .int .i64 0, .slice none 0 0] 29))) := balloc (balloc (balloc (Below.refl _ _) _) _) _
  rw [hRB]
  clear hRB
  generalize ((w.alloc (.cells #[.int .i64 n, .slice a0 es.length c0] 24)).alloc (.cells #[.int .i64 num, .int .i64 den] 39)).alloc (.cells #[.slice none 0 0, .int .i64 0, .slice none 0 0] 29) = W1 at *
  obtain ⟨QB, hQB⟩ : ∃ QB, w.heap.size + 1 = QB := ⟨_, rfl⟩
  rw [hQB] at Q1 ⊢
  clear hQB
  refine (slook_any n s t _ _ es h W1 (HV.out.below B1.out) (HU.out.below B1.out) hlen hhl).mono ?_
  rintro e w2 ⟨rfl, b2⟩
  have B2 : Hid (Below w.heap.size w w2) := bthen B1.out b2
  have R2 : Hid _ := R1.out.below b2
  have Q2 : Hid _ := Q1.out.below b2
  have G2 : Hid _ := G1.out.below b2
  obtain ⟨k0, k1, k2⟩ := R2.out.cell
  obtain ⟨z0, z1, z2⟩ := R2.out.frozen
  obtain ⟨q0, q1⟩ := Q2.out
  clear b2
  go_wp2_with fail
  have R3 : Hid _ := R2.out.put (.slice none 0 0) (.int .i64 0) (.slice none 0 0)
  have B3 : Hid _ := rb_below B2.out RL.out (.slice none 0 0) (.int .i64 0) (.slice none 0 0)
  generalize ((w2.setCell ⟨RB, 0, none⟩ (.slice none 0 0)).setCell ⟨RB, 1, none⟩ (.int .i64 0)).setCell ⟨RB, 2, none⟩ (.slice none 0 0) = W3 at *
  clear k0 k1 k2 z0 z1 z2
  obtain ⟨k0, k1, k2⟩ := R3.out.cell
  exact bodyPost_ret (v := .tuple #[.agg #[.slice none 0 0, .int .i64 0, .slice none 0 0], .int .i64 (sls n es s t h)]) (by simp [results, Try.results19, go_sem, k0, k1, k2]) rfl ⟨rfl, B3.out⟩
set_option maxRecDepth 100000 in
set_option maxHeartbeats 8000000 in
theorem wrun_weight (n s t num den : Int) (v u : Value) (es : List E) (h : List Int) (w : World) (hv : SlE w v es) (hu : SlI w u h) (hlen : es.length ≤ 9223372036854775807) (hhl : h.length ≤ 9223372036854775807) (hc : sls n es s t h = 0) (hw : wtk num den ≠ 0) :
    Calls Try.prog 19 #[.agg #[.int .i64 n, v], .int .i64 s, .int .i64 t, u, .agg #[.int .i64 num, .int .i64 den]] w fun e w' => e = .returned (.tuple #[.agg #[.slice none 0 0, .int .i64 0, .slice none 0 0], .int .i64 (wtk num den)]) ∧ Below w.heap.size w w' := by
  obtain ⟨a0, c0, rfl⟩ := hv.val
  obtain ⟨a1, c1, rfl⟩ := hu.val
  have HV : Hid _ := hv
  have HU : Hid _ := hu
  have hz : (wtk num den != 0) = true := by simp [hw]
  have HC : Hid _ := hc
  clear hv hu hc hw
  go_enter Try.func19, Try.ntmps19
  go_wp2_with fail
  obtain ⟨RB, hRB⟩ : ∃ RB, w.heap.size + 1 + 1 = RB := ⟨_, rfl⟩
  have G1 : Hid (Box2 (((w.alloc (.cells #[.int .i64 n, .slice a0 es.length c0] 24)).alloc (.cells #[.int .i64 num, .int .i64 den] 39)).alloc (.cells #[.slice none 0 0, .int .i64 0, .slice none 0 0] 29)) w.heap.size n (.slice a0 es.length c0)) := (box2_new w n (.slice a0 es.length c0) 24).below (balloc (balloc (Below.refl _ _) _) _)
  have Q1 : Hid (Box2 (((w.alloc (.cells #[.int .i64 n, .slice a0 es.length c0] 24)).alloc (.cells #[.int .i64 num, .int .i64 den] 39)).alloc (.cells #[.slice none 0 0, .int .i64 0, .slice none 0 0] 29)) (w.heap.size + 1) num (.int .i64 den)) := by
    have h1 := (box2_new (w.alloc (.cells #[.int .i64 n, .slice a0 es.length c0] 24)) num (.int .i64 den) 39).below (balloc (Below.refl _ _) (.cells #[.slice none 0 0, .int .i64 0, .slice none 0 0] 29))
    unfold Hid; simpa using h1
  have R1 : Hid (Rb (((w.alloc (.cells #[.int .i64 n, .slice a0 es.length c0] 24)).alloc (.cells #[.int .i64 num, .int .i64 den] 39)).alloc (.cells #[.slice none 0 0, .int .i64 0, .slice none 0 0] 29)) RB (.slice none 0 0) (.int .i64 0) (.slice none 0 0)) := ⟨by rw [← hRB]; exact new_at _ _ (by simp)⟩
  have RL : Hid (w.heap.size ≤ RB) := by unfold Hid; omega
  have B1 : Hid (Below w.heap.size w (((w.alloc (.cells #[.int .i64 n, .slice a0 es.length c0] 24)).alloc (.cells #[.int .i64 num, .int .i64 den] 39)).alloc (.cells #[.slice none 0 0, .int .i64 0, .slice none 0 0] 29))) := balloc (balloc (balloc (Below.refl _ _) _) _) _
  rw [hRB]
  clear hRB
  generalize ((w.alloc (.cells #[.int .i64 n, .slice a0 es.length c0] 24)).alloc (.cells #[.int .i64 num, .int .i64 den] 39)).alloc (.cells #[.slice none 0 0, .int .i64 0, .slice none 0 0] 29) = W1 at *
  obtain ⟨QB, hQB⟩ : ∃ QB, w.heap.size + 1 = QB := ⟨_, rfl⟩
  rw [hQB] at Q1 ⊢
  clear hQB
  refine (slook_any n s t _ _ es h W1 (HV.out.below B1.out) (HU.out.below B1.out) hlen hhl).mono ?_
  rintro e w2 ⟨rfl, b2⟩
  have B2 : Hid (Below w.heap.size w w2) := bthen B1.out b2
  have R2 : Hid _ := R1.out.below b2
  have Q2 : Hid _ := Q1.out.below b2
  have G2 : Hid _ := G1.out.below b2
  obtain ⟨k0, k1, k2⟩ := R2.out.cell
  obtain ⟨z0, z1, z2⟩ := R2.out.frozen
  obtain ⟨q0, q1⟩ := Q2.out
  rw [HC.out]
  clear b2
  go_wp2_with fail
  refine (weight_any num den _).mono ?_
  rintro e w3 ⟨rfl, b3⟩
  have B3 : Hid (Below w.heap.size w w3) := bthen B2.out b3
  have R3 : Hid _ := R2.out.below b3
  clear k0 k1 k2 z0 z1 z2 q0 q1 b3
  obtain ⟨k0, k1, k2⟩ := R3.out.cell
  obtain ⟨z0, z1, z2⟩ := R3.out.frozen
  go_wp2_with fail
  have R4 : Hid _ := R3.out.put (.slice none 0 0) (.int .i64 0) (.slice none 0 0)
  have B4 : Hid _ := rb_below B3.out RL.out (.slice none 0 0) (.int .i64 0) (.slice none 0 0)
  generalize ((w3.setCell ⟨RB, 0, none⟩ (.slice none 0 0)).setCell ⟨RB, 1, none⟩ (.int .i64 0)).setCell ⟨RB, 2, none⟩ (.slice none 0 0) = W4 at *
  clear k0 k1 k2 z0 z1 z2
  obtain ⟨k0, k1, k2⟩ := R4.out.cell
  exact bodyPost_ret (v := .tuple #[.agg #[.slice none 0 0, .int .i64 0, .slice none 0 0], .int .i64 (wtk num den)]) (by simp [results, Try.results19, go_sem, k0, k1, k2]) rfl ⟨rfl, B4.out⟩
set_option maxRecDepth 100000 in
set_option maxHeartbeats 8000000 in
theorem wrun_yes (n s t : Nat) (num den : Int) (v u : Value) (es : List E) (h : List Int) (w : World) (hv : SlE w v es) (hu : SlI w u h) (hlen : es.length ≤ 9223372036854775807) (hhl : h.length ≤ 9223372036854775807) (hs : s < n) (ht : t < n) (hp : Pn n es) (hc : sls n es s t h = 0) (hw : wtk num den = 0) (hln : h.length = n) (hrg : ∀ v, v < n → 0 ≤ h.getD v 0 ∧ h.getD v 0 ≤ 1099511627776) :
    Calls Try.prog 19 #[.agg #[.int .i64 n, v], .int .i64 s, .int .i64 t, u, .agg #[.int .i64 num, .int .i64 den]] w fun e w' => Bk9 w n es h s t (fun c g => den * c + num * g) e w' := by
  obtain ⟨a0, c0, rfl⟩ := hv.val
  obtain ⟨a1, c1, rfl⟩ := hu.val
  have HV : Hid _ := hv
  have HU : Hid _ := hu
  have HC : Hid _ := hc
  have HW : Hid _ := hw
  have HP : Hid _ := hp
  have HRG : Hid _ := hrg
  have HLN : Hid _ := hln
  have HZ : Hid _ := wtk_zero hw
  clear hv hu hc hrg hp hln hw
  go_enter Try.func19, Try.ntmps19
  go_wp2_with fail
  obtain ⟨RB, hRB⟩ : ∃ RB, w.heap.size + 1 + 1 = RB := ⟨_, rfl⟩
  have G1 : Hid (Box2 (((w.alloc (.cells #[.int .i64 n, .slice a0 es.length c0] 24)).alloc (.cells #[.int .i64 num, .int .i64 den] 39)).alloc (.cells #[.slice none 0 0, .int .i64 0, .slice none 0 0] 29)) w.heap.size n (.slice a0 es.length c0)) := (box2_new w n (.slice a0 es.length c0) 24).below (balloc (balloc (Below.refl _ _) _) _)
  have Q1 : Hid (Box2 (((w.alloc (.cells #[.int .i64 n, .slice a0 es.length c0] 24)).alloc (.cells #[.int .i64 num, .int .i64 den] 39)).alloc (.cells #[.slice none 0 0, .int .i64 0, .slice none 0 0] 29)) (w.heap.size + 1) num (.int .i64 den)) := by
    have h1 := (box2_new (w.alloc (.cells #[.int .i64 n, .slice a0 es.length c0] 24)) num (.int .i64 den) 39).below (balloc (Below.refl _ _) (.cells #[.slice none 0 0, .int .i64 0, .slice none 0 0] 29))
    unfold Hid; simpa using h1
  have R1 : Hid (Rb (((w.alloc (.cells #[.int .i64 n, .slice a0 es.length c0] 24)).alloc (.cells #[.int .i64 num, .int .i64 den] 39)).alloc (.cells #[.slice none 0 0, .int .i64 0, .slice none 0 0] 29)) RB (.slice none 0 0) (.int .i64 0) (.slice none 0 0)) := ⟨by rw [← hRB]; exact new_at _ _ (by simp)⟩
  have RL : Hid (w.heap.size ≤ RB) := by unfold Hid; omega
  have B1 : Hid (Below w.heap.size w (((w.alloc (.cells #[.int .i64 n, .slice a0 es.length c0] 24)).alloc (.cells #[.int .i64 num, .int .i64 den] 39)).alloc (.cells #[.slice none 0 0, .int .i64 0, .slice none 0 0] 29))) := balloc (balloc (balloc (Below.refl _ _) _) _) _
  rw [hRB]
  clear hRB
  generalize ((w.alloc (.cells #[.int .i64 n, .slice a0 es.length c0] 24)).alloc (.cells #[.int .i64 num, .int .i64 den] 39)).alloc (.cells #[.slice none 0 0, .int .i64 0, .slice none 0 0] 29) = W1 at *
  obtain ⟨QB, hQB⟩ : ∃ QB, w.heap.size + 1 = QB := ⟨_, rfl⟩
  rw [hQB] at Q1 ⊢
  clear hQB
  refine (slook_any n s t _ _ es h W1 (HV.out.below B1.out) (HU.out.below B1.out) hlen hhl).mono ?_
  rintro e w2 ⟨rfl, b2⟩
  have B2 : Hid (Below w.heap.size w w2) := bthen B1.out b2
  have R2 : Hid _ := R1.out.below b2
  have Q2 : Hid _ := Q1.out.below b2
  have G2 : Hid _ := G1.out.below b2
  obtain ⟨k0, k1, k2⟩ := R2.out.cell
  obtain ⟨z0, z1, z2⟩ := R2.out.frozen
  obtain ⟨q0, q1⟩ := Q2.out
  rw [HC.out]
  clear b2
  go_wp2_with fail
  refine (weight_any num den _).mono ?_
  rintro e w3 ⟨rfl, b3⟩
  have B3 : Hid (Below w.heap.size w w3) := bthen B2.out b3
  have R3 : Hid _ := R2.out.below b3
  have Q3 : Hid _ := Q2.out.below b3
  obtain ⟨g0, g1⟩ := G2.out.below b3
  clear k0 k1 k2 z0 z1 z2 q0 q1 b3
  obtain ⟨k0, k1, k2⟩ := R3.out.cell
  obtain ⟨z0, z1, z2⟩ := R3.out.frozen
  obtain ⟨q0, q1⟩ := Q3.out
  rw [HW.out]
  have FX : Hid (Fx w3 ⟨n, .slice a0 es.length c0, .slice a1 h.length c1, 46, #[.pointer (some ⟨QB, 0, none⟩)]⟩ es h s (fun c g => den * c + num * g)) := by
    obtain ⟨z1, z2, z3⟩ := HZ.out
    exact ⟨HP.out, HV.out.below B3.out, HU.out.below B3.out, HLN.out, HRG.out, pweighkey w3 QB num den q0 q1 (by omega) z3 (by omega) (by omega), fun x y g hxy => by have := Int.mul_le_mul_of_nonneg_left hxy (show 0 ≤ den by omega); omega, hs⟩
  have BY : Hid _ := fun (_ : Unit) => byKeys_any FX.out t ht
  go_wp2_with fail
  refine (BY.out ()).mono ?_
  rintro e w4 (⟨h1, rfl, b4⟩ | ⟨s', o, vp, vo, h1, rfl, s1, s2, b4⟩)
  · have H1 : Hid _ := h1
    have B4 : Hid (Below w.heap.size w w4) := bthen B3.out b4
    have R4 : Hid _ := R3.out.below b4
    clear k0 k1 k2 z0 z1 z2 q0 q1 h1 b4 BY
    obtain ⟨k0, k1, k2⟩ := R4.out.cell
    obtain ⟨z0, z1, z2⟩ := R4.out.frozen
    go_wp2_with fail
    have R5 : Hid _ := R4.out.put (.slice none 0 0) (.int .i64 0) (.slice none 0 0)
    have B5 : Hid _ := rb_below B4.out RL.out (.slice none 0 0) (.int .i64 0) (.slice none 0 0)
    generalize ((w4.setCell ⟨RB, 0, none⟩ (.slice none 0 0)).setCell ⟨RB, 1, none⟩ (.int .i64 0)).setCell ⟨RB, 2, none⟩ (.slice none 0 0) = W5 at *
    clear k0 k1 k2 z0 z1 z2
    obtain ⟨k0, k1, k2⟩ := R5.out.cell
    exact bodyPost_ret (v := .tuple #[.agg #[.slice none 0 0, .int .i64 0, .slice none 0 0], .int .i64 5]) (by simp [results, Try.results19, go_sem, k0, k1, k2]) rfl (.inl ⟨H1.out, rfl, B5.out⟩)
  · have H1 : Hid _ := h1
    have B4 : Hid (Below w.heap.size w w4) := bthen B3.out b4
    have R4 : Hid _ := R3.out.below b4
    obtain ⟨ap, cp, rfl⟩ := s1.sl.val
    obtain ⟨ao, co, rfl⟩ := s2.sl.val
    have RX : Hid (RB < w3.heap.size) := R3.out.lt
    obtain ⟨lp, hlp⟩ : ∃ lp, (ints (way s' s t)).length = lp := ⟨_, rfl⟩
    obtain ⟨lo, hlo⟩ : ∃ lo, (ints o).length = lo := ⟨_, rfl⟩
    obtain ⟨ct, hct⟩ : ∃ ct, s'.c t = ct := ⟨_, rfl⟩
    rw [hlp] at s1 ⊢
    rw [hlo] at s2 ⊢
    rw [hct]
    have S1 : Hid _ := s1
    have S2 : Hid _ := s2
    have HCT : Hid _ := hct
    clear k0 k1 k2 z0 z1 z2 q0 q1 h1 b4 BY s1 s2 hlp hlo hct
    obtain ⟨k0, k1, k2⟩ := R4.out.cell
    obtain ⟨z0, z1, z2⟩ := R4.out.frozen
    go_wp2_with fail
    have R5 : Hid _ := R4.out.put (.slice ap lp cp) (.int .i64 ct) (.slice ao lo co)
    have B5 : Hid _ := rb_below B4.out RL.out (.slice ap lp cp) (.int .i64 ct) (.slice ao lo co)
    have S3 : Hid (Is (((w4.setCell ⟨RB, 0, none⟩ (.slice ap lp cp)).setCell ⟨RB, 1, none⟩ (.int .i64 ct)).setCell ⟨RB, 2, none⟩ (.slice ao lo co)) w3.heap.size (.slice ap lp cp) (ints (way s' s t))) := ((S1.out.other RX.out).other RX.out).other RX.out
    have S4 : Hid (Is (((w4.setCell ⟨RB, 0, none⟩ (.slice ap lp cp)).setCell ⟨RB, 1, none⟩ (.int .i64 ct)).setCell ⟨RB, 2, none⟩ (.slice ao lo co)) w3.heap.size (.slice ao lo co) (ints o)) := ((S2.out.other RX.out).other RX.out).other RX.out
    generalize ((w4.setCell ⟨RB, 0, none⟩ (.slice ap lp cp)).setCell ⟨RB, 1, none⟩ (.int .i64 ct)).setCell ⟨RB, 2, none⟩ (.slice ao lo co) = W5 at *
    clear k0 k1 k2 z0 z1 z2
    obtain ⟨k0, k1, k2⟩ := R5.out.cell
    refine bodyPost_ret (v := .tuple #[.agg #[.slice ap lp cp, .int .i64 ct, .slice ao lo co], .int .i64 0]) (by simp [results, Try.results19, go_sem, k0, k1, k2]) rfl (.inr ⟨s', o, _, _, H1.out, ?_, S3.out.mono B3.out.size, S4.out.mono B3.out.size, B5.out⟩)
    rw [HCT.out]
end Go.Proofs.Ytefikbjjdldomaa
namespace Go.Proofs.Ytefikbjjdldomaa
open Go.RowKit
open _root_.Go.Proofs.Ytefikbjjdldomaa.Nm Wm Dm Sk

/-- What the search finds. -/
def res (n s t : Int) (es : List E) (h : List Int) (ky : Int → Int → Int) : Option (Int × List Nat × List Nat) :=
  (sea n.toNat es (gf h) ky t.toNat (n.toNat + 1) (st0 (gf h) s.toNat) []).map fun x => (x.1.c t.toNat, way x.1 s.toNat t.toNat, x.2)
/-- What is answered: an error's number, a cost, a path, an order. -/
def ans (code : Int) (r : Option (Int × List Nat × List Nat)) : Int × Int × List Int × List Int :=
  if code ≠ 0 then (code, 0, [], []) else match r with
  | none => (5, 0, [], [])
  | some x => (0, x.1, ints x.2.1, ints x.2.2)
structure Av (w0 w' : World) (A : Int × Int × List Int × List Int) (e : Ending) : Prop where
  ex : ∃ x z, e = .returned (.tuple #[.agg #[x, .int .i64 A.2.1, z], .int .i64 A.1]) ∧ Is w' w0.heap.size x A.2.2.1 ∧ Is w' w0.heap.size z A.2.2.2 ∧ Below w0.heap.size w0 w'
theorem Is.short {w : World} {b : Nat} {v : Value} {l : List Int} (h : Is w b v l) : l.length ≤ 9223372036854775807 := by
  rcases h.own.2 with ⟨_, h0⟩ | ⟨g, cap, cur, _, _, _, h2, h3, _⟩
  · omega
  · unfold maxLen at h3; omega
theorem av_no {w w' : World} {code : Int} {r : Option (Int × List Nat × List Nat)} {e : Ending} (hc : code ≠ 0) (he : e = .returned (.tuple #[.agg #[.slice none 0 0, .int .i64 0, .slice none 0 0], .int .i64 code])) (hb : Below w.heap.size w w') : Av w w' (ans code r) e := by
  unfold ans
  rw [if_pos hc]
  exact ⟨_, _, he, Is.nil _ _, Is.nil _ _, hb⟩
theorem av_bk {w w' : World} {n a t : Nat} {es : List E} {h : List Int} {ky : Int → Int → Int} {e : Ending} {code : Int} (hc : code = 0) (hb : Bk9 w n es h a t ky e w') : Av w w' (ans code (res n a t es h ky)) e := by
  subst hc
  unfold ans res
  rw [if_neg (by simp)]
  simp only [Int.toNat_natCast]
  rcases hb with ⟨h1, h2, h3⟩ | ⟨s, o, vp, vo, h1, h2, h3, h4, h5⟩
  · rw [h1]
    exact ⟨_, _, h2, Is.nil _ _, Is.nil _ _, h3⟩
  · rw [h1]
    exact ⟨_, _, h2, h3, h4, h5⟩
theorem srun_av (n s t : Int) (v u : Value) (es : List E) (h : List Int) (w : World) (hv : SlE w v es) (hu : SlI w u h) (hlen : es.length ≤ 9223372036854775807) (hhl : h.length ≤ 9223372036854775807) :
    Calls Try.prog 11 #[.agg #[.int .i64 n, v], .int .i64 s, .int .i64 t, u] w fun e w' => Av w w' (ans (sls n es s t h) (res n s t es h (fun c g => c + g))) e := by
  by_cases hc : sls n es s t h = 0
  · obtain ⟨N, S, T, rfl, rfl, rfl, hS, hT, hp, hg, hl⟩ := sls_zero hc
    obtain ⟨h1, h2⟩ := gus_fx hl hg
    exact (srun_yes N S T v u es h w hv hu hlen hhl hS hT hp hc h1 h2).mono fun e w' hb => av_bk hc hb
  · exact (srun_no n s t v u es h w hv hu hlen hhl hc).mono fun e w' hb => av_no hc hb.1 hb.2
/-- The number of the error of weigh.Run's input. -/
def wco (n s t num den : Int) (es : List E) (h : List Int) : Int := if sls n es s t h ≠ 0 then sls n es s t h else wtk num den
theorem wrun_av (n s t num den : Int) (v u : Value) (es : List E) (h : List Int) (w : World) (hv : SlE w v es) (hu : SlI w u h) (hlen : es.length ≤ 9223372036854775807) (hhl : h.length ≤ 9223372036854775807) :
    Calls Try.prog 19 #[.agg #[.int .i64 n, v], .int .i64 s, .int .i64 t, u, .agg #[.int .i64 num, .int .i64 den]] w fun e w' => Av w w' (ans (wco n s t num den es h) (res n s t es h (fun c g => den * c + num * g))) e := by
  unfold wco
  by_cases hc : sls n es s t h = 0
  · rw [if_neg (by simp [hc])]
    by_cases hw : wtk num den = 0
    · obtain ⟨N, S, T, rfl, rfl, rfl, hS, hT, hp, hg, hl⟩ := sls_zero hc
      obtain ⟨h1, h2⟩ := gus_fx hl hg
      exact (wrun_yes N S T num den v u es h w hv hu hlen hhl hS hT hp hc hw h1 h2).mono fun e w' hb => av_bk hw hb
    · exact (wrun_weight n s t num den v u es h w hv hu hlen hhl hc hw).mono fun e w' hb => av_no hw hb.1 hb.2
  · rw [if_pos hc]
    exact (wrun_look n s t num den v u es h w hv hu hlen hhl hc).mono fun e w' hb => av_no hc hb.1 hb.2
/-- With the weight 1 it is the search without a weight. -/
theorem ans_one (n s t : Int) (es : List E) (h : List Int) : ans (wco n s t 1 1 es h) (res n s t es h (fun c g => 1 * c + 1 * g)) = ans (sls n es s t h) (res n s t es h (fun c g => c + g)) := by
  have e1 : (fun c g : Int => 1 * c + 1 * g) = fun c g => c + g := by funext c g; omega
  have e2 : wco n s t 1 1 es h = sls n es s t h := by
    unfold wco
    by_cases hc : sls n es s t h = 0
    · rw [if_neg (by simp [hc]), hc]; rfl
    · rw [if_pos hc]
  rw [e1, e2]
/-- Without guesses the weight makes no difference. -/
theorem ans_zero (n s t num den : Int) (es : List E) (k : Nat) (hw : wtk num den = 0) : ans (wco n s t num den es (zer k)) (res n s t es (zer k) (fun c g => den * c + num * g)) = ans (sls n es s t (zer k)) (res n s t es (zer k) (fun c g => c + g)) := by
  obtain ⟨z1, z2, z3⟩ := wtk_zero hw
  have e2 : wco n s t num den es (zer k) = sls n es s t (zer k) := by
    unfold wco
    by_cases hc : sls n es s t (zer k) = 0
    · rw [if_neg (by simp [hc]), hc, hw]
    · rw [if_pos hc]
  have h0 : ∀ a, gf (zer k) a = 0 := by
    intro a
    by_cases ha : a < k
    · exact zer_at ha
    · unfold gf; rw [List.getD_eq_getElem?_getD, List.getElem?_eq_none (by rw [zer, lst_length]; omega)]; rfl
  have e1 : ∀ f s0 ord, sea n.toNat es (gf (zer k)) (fun c g => den * c + num * g) t.toNat f s0 ord = sea n.toNat es (gf (zer k)) (fun c g => c + g) t.toNat f s0 ord := by
    refine sea_congr (fun x y a b => ?_)
    rw [h0 a, h0 b]
    simp only [Int.mul_zero, Int.add_zero]
    constructor
    · intro hlt
      exact Int.lt_of_mul_lt_mul_left hlt (by omega)
    · intro hlt
      exact Int.mul_lt_mul_of_pos_left hlt (by omega)
  unfold res
  rw [e2, e1]
end Go.Proofs.Ytefikbjjdldomaa
namespace Go.Proofs.Ytefikbjjdldomaa
open Go.RowKit
open _root_.Go.Proofs.Ytefikbjjdldomaa.Nm Wm Dm Sk
attribute [local go_sem ↓] Go.wp_at_zero Go.wp_at_succ

theorem SlI.take {w : World} {a : Option Addr} {n c : Nat} {l : List Nat} (h : SlI w (.slice a n c) (ints l)) (i : Nat) (hi : i ≤ l.length) : SlI w (.slice a i c) (ints (l.take i)) := by
  have hl : (ints (l.take i)).length = i := by rw [ints_length, List.length_take]; omega
  rcases h.is with ⟨a', c', e, e0⟩ | ⟨b, off, cap, e, hc, hle⟩
  · have : l.length = 0 := by rw [← ints_length l, e0]; rfl
    obtain rfl : i = 0 := by omega
    simp only [Value.slice.injEq] at e
    obtain ⟨rfl, rfl, rfl⟩ := e
    exact .no _ _ rfl rfl
  · simp only [Value.slice.injEq] at e
    obtain ⟨rfl, rfl, rfl⟩ := e
    refine .row b off c (by rw [hl]) (fun j hj => ?_) (by rw [hl]; rw [ints_length] at hle; omega)
    rw [hl] at hj
    rw [hc j (by rw [ints_length]; omega), ints_at (show j < (l.take i).length by rw [List.length_take]; omega), ints_at (show j < l.length by omega)]
    simp
set_option maxRecDepth 100000 in
set_option maxHeartbeats 8000000 in
theorem once_any (v : Value) (l : List Nat) (w : World) (hv : SlI w v (ints l)) (hlen : l.length ≤ 64) (hn : l.Nodup) :
    Calls Try.prog 24 #[v] w fun e w' => e = .returned (.bool true) ∧ w' = w := by
  obtain ⟨a0, c0, rfl⟩ := hv.val
  have HN : Hid _ := hn
  obtain ⟨n, hnl⟩ : ∃ n, (ints l).length = n := ⟨_, rfl⟩
  have HL : Hid (l.length = n) := by unfold Hid; rw [← hnl, ints_length]
  rw [hnl] at hv ⊢
  have HV : Hid _ := hv
  clear hv hn hnl
  have hn64 : n ≤ 64 := by have := HL.out; omega
  go_enter Try.func24, Try.ntmps24
  go_wp2_with fail
  go_loopw [7] (fun z wr => ∃ i : Nat, z = .int .i64 i ∧ i ≤ n ∧ wr = w) (fun z _ => n - (intOf z).toNat)
  case atStart => exact ⟨0, rfl, Nat.zero_le _, rfl⟩
  case round =>
    obtain ⟨i, rfl, hi, rfl⟩ := hrel
    by_cases hlt : i < n
    · have hii : (i : Int) < (n : Int) := by omega
      have hV : SlI wr (.slice a0 n c0) (ints l) := HV.out
      obtain ⟨b, off, cap, hve, hcl⟩ := hV.some2 (by rw [ints_length, HL.out]; omega)
      simp only [Value.slice.injEq] at hve
      obtain ⟨rfl, -, rfl⟩ := hve
      have hnc : n ≤ c0 := by have := hcl.2; rw [ints_length, HL.out] at this; exact this
      have hcap : (i : Int) ≤ (c0 : Int) := by omega
      have hcap0 : ¬ c0 = 0 := by omega
      have d0 := hcl.1 i (by rw [ints_length, HL.out]; omega)
      rw [ints_at (show i < l.length by rw [HL.out]; omega)] at d0
      have TK : Hid _ := hV.take i (by rw [HL.out]; omega)
      have hno : decide (l[i]'(by rw [HL.out]; omega) ∈ l.take i) = false := decide_eq_false (fun hm => by
        obtain ⟨j, hj, e⟩ := List.mem_iff_getElem.1 hm
        rw [List.length_take] at hj
        rw [List.getElem_take] at e
        exact List.pairwise_iff_getElem.1 HN.out j i (by rw [HL.out]; omega) (by rw [HL.out]; omega) (by omega) e)
      obtain ⟨x, hx⟩ : ∃ x, l[i]'(by rw [HL.out]; omega) = x := ⟨_, rfl⟩
      rw [hx] at d0 hno
      have CT : Hid _ := fun (_ : Unit) => contains_any _ (l.take i) x wr TK.out (by rw [List.length_take]; omega)
      rw [hno] at CT
      clear hV hcl hx hno
      go_wp2_with fail
      refine (CT.out ()).mono ?_
      rintro e w2 ⟨rfl, rfl⟩
      go_wp2_with fail
      go_roundw
      case rel => exact ⟨i + 1, by go_num, by omega, trivial⟩
      case measure => simp [intOf]; omega
    · go_wp2_with fail
      go_ret
      exact ⟨rfl, rfl⟩
set_option maxRecDepth 100000 in
set_option maxHeartbeats 8000000 in
theorem walks_any (N s t : Nat) (c : Int) (v u : Value) (es : List E) (p : List Nat) (w : World) (hv : SlE w v es) (hu : SlI w u (ints p)) (hlen : es.length ≤ 9223372036854775807) (hw : wcode N es (ints p) = (c, 0)) (h0 : 0 < p.length) (hp64 : p.length ≤ 64) (hs : p.getD 0 0 = s) (ht : p.getD (p.length - 1) 0 = t) :
    Calls Try.prog 23 #[.agg #[.int .i64 N, v], .agg #[u, .int .i64 c], .int .i64 s, .int .i64 t] w fun e w' => e = .returned (.bool true) ∧ Below w.heap.size w w' := by
  obtain ⟨a0, c0, rfl⟩ := hv.val
  obtain ⟨b, off, cap, rfl, hcl⟩ := hu.some' (by rw [ints_length]; omega)
  have d0 := hcl 0 (by rw [ints_length]; omega)
  have d1 := hcl (p.length - 1) (by rw [ints_length]; omega)
  rw [ints_at h0] at d0
  rw [ints_at (show p.length - 1 < p.length by omega)] at d1
  have e0 : p[0] = s := by rw [← hs]; simp [List.getD_eq_getElem?_getD, h0]
  have e1 : p[p.length - 1] = t := by rw [← ht]; simp [List.getD_eq_getElem?_getD, show p.length - 1 < p.length by omega]
  rw [e0, Nat.add_zero] at d0
  rw [e1] at d1
  have HV : Hid _ := hv
  have HU : Hid _ := hu
  obtain ⟨n, hn⟩ : ∃ n, (ints p).length = n := ⟨_, rfl⟩
  have HN : Hid (p.length = n) := by unfold Hid; rw [← hn, ints_length]
  rw [hn]
  rw [HN.out] at d1
  have CO : Hid (∀ W, Below w.heap.size w W → Calls Try.prog 48 #[.agg #[.int .i64 N, .slice a0 es.length c0], .slice (some ⟨b, off, none⟩) n cap] W fun e w' => e = .returned (.tuple #[.int .i64 c, .int .i64 0]) ∧ Below W.heap.size W w') := fun W hb => by
    have h1 := cost_any N _ _ es (ints p) W (HV.out.below hb) (HU.out.below hb) hlen (by rw [ints_length]; omega)
    rw [hw, hn] at h1
    exact h1
  have hn0 : (0 : Int) < (n : Int) := by have := HN.out; omega
  have hn1 : (n : Int) - 1 < (n : Int) := by omega
  have hn2 : 0 ≤ (n : Int) - 1 := by omega
  have hnw : ((n : Int) - 1) = ((n - 1 : Nat) : Int) := by omega
  have hn64 : n ≤ 64 := by have := HN.out; omega
  have hnlt : ((n - 1 : Nat) : Int) < (n : Int) := by omega
  clear hv hu hn hw hcl e0 e1 hs ht h0 hp64
  go_enter Try.func23, Try.ntmps23
  go_wp2_with fail
  have B1 : Hid (Below w.heap.size w ((w.alloc (.cells #[.int .i64 N, .slice a0 es.length c0] 24)).alloc (.cells #[.slice (some ⟨b, off, none⟩) n cap, .int .i64 c] 27))) := balloc (balloc (Below.refl _ _) _) _
  have W1 : Hid (((w.alloc (.cells #[.int .i64 N, .slice a0 es.length c0] 24)).alloc (.cells #[.slice (some ⟨b, off, none⟩) n cap, .int .i64 c] 27)).heap[w.heap.size + 1]? = some (.cells #[.slice (some ⟨b, off, none⟩) n cap, .int .i64 c] 27 (0, 0))) := new_at _ _ (by simp)
  generalize (w.alloc (.cells #[.int .i64 N, .slice a0 es.length c0] 24)).alloc (.cells #[.slice (some ⟨b, off, none⟩) n cap, .int .i64 c] 27) = V1 at *
  refine (CO.out V1 B1.out).mono ?_
  rintro e w2 ⟨rfl, b2⟩
  have B2 : Hid (Below w.heap.size w w2) := bthen B1.out b2
  have r2 := (b2.block _ (heap_lt' W1.out)).trans W1.out
  obtain ⟨k0, k1⟩ : w2.cell? ⟨w.heap.size + 1, 0, none⟩ = some (.slice (some ⟨b, off, none⟩) n cap) ∧ w2.cell? ⟨w.heap.size + 1, 1, none⟩ = some (.int .i64 c) := by simp [World.cell?, r2]
  have f0 := kept B2.out d0
  have f1 := kept B2.out d1
  clear b2 r2 d0 d1
  go_wp2_with fail
  go_ret
  exact ⟨rfl, B2.out⟩
theorem times_any (c num den l : Int) (w : World) (hc : 0 ≤ c) (hc1 : c ≤ 1099511627776) (hn : 0 ≤ num) (hn1 : num ≤ 1000000) (hd : 0 ≤ den) (hd1 : den ≤ 1000000) (hl : 0 ≤ l) (hl1 : l ≤ 1099511627776) (h : c * den ≤ num * l) :
    Calls Try.prog 29 #[.int .i64 c, .agg #[.int .i64 num, .int .i64 den], .int .i64 l] w fun e w' => e = .returned (.bool true) ∧ Below w.heap.size w w' := by
  have m0 : 0 ≤ c * den := Int.mul_nonneg hc hd
  have m1 : c * den ≤ 1099511627776 * 1000000 := Int.mul_le_mul hc1 hd1 hd (by omega)
  have m2 : 0 ≤ num * l := Int.mul_nonneg hn hl
  have m3 : num * l ≤ 1000000 * 1099511627776 := Int.mul_le_mul hn1 hl1 hl (by omega)
  have hd' : decide (c * den ≤ num * l) = true := decide_eq_true h
  go_enter Try.func29, Try.ntmps29
  go_wp2_with fail
  go_ret
  exact ⟨rfl, balloc (Below.refl _ _) _⟩
end Go.Proofs.Ytefikbjjdldomaa
namespace Go.Proofs.Ytefikbjjdldomaa
open Go.RowKit
open _root_.Go.Proofs.Ytefikbjjdldomaa.Nm Wm Dm Sk

theorem d_ex {N s : Nat} (v : Value) (es : List E) (w : World) (hv : SlE w v es) (hp : Pn N es) (hs : s < N) : ∃ d, IsD N es s d := by
  obtain ⟨e, w', fr, ⟨G, d, -, -, -, hd, -⟩, -⟩ := costs_any N s v es w hv hp hs []
  exact ⟨d, hd⟩
theorem wgh_walk {N a t : Nat} {es : List E} {A B : Int} {D : Nat → Int} {s : S} {o : List Nat} (hp : Pn N es) (hg : nps N es = 0) (ha : a < N) (ht : t < N) (h : Wgh N es a t A B D s o) :
    wcode N es (ints (way s a t)) = (s.c t, 0) ∧ 0 < (way s a t).length ∧ (way s a t).length ≤ 64 ∧ (way s a t).getD 0 0 = a ∧ (way s a t).getD ((way s a t).length - 1) 0 = t := by
  obtain ⟨q, -, -, hd⟩ := h.dn
  obtain ⟨⟨q1, h1⟩, ⟨r1, h2⟩, h3, -, h5, h6⟩ := way_is hd hp ha t ht h.lt
  have hl := way_len hd hp ha ht h.lt
  have hn := hp.n64
  have hnc : nck (N : Int) es = 0 := nck_zero.2 (pn_of hg).1
  have hpos : 0 < (way s a t).length := by rw [h2]; simp
  refine ⟨wcode_some hnc ?_ ?_ ?_ h6, hpos, by omega, by rw [h2]; rfl, by rw [h1]; simp⟩
  · rw [ints_length]; omega
  · rw [ints_length]; omega
  · rw [List.all_eq_true]
    intro x hx
    simp only [ints, List.mem_map] at hx
    obtain ⟨k, hk, rfl⟩ := hx
    have := h3 k hk
    exact plc_yes (by omega) (by omega)
end Go.Proofs.Ytefikbjjdldomaa
