/-
  The law fellkeep.WalkParts, walked.
-/
import Derived.Test.YtfgdcglgloahfaaWB
import Derived.Test.YtfgdcglgloahfaaRV
namespace Go.Proofs.Ytfgdcglgloahfaa.WParts
open Go.RowKit
open Nm Wm Cm

theorem wc_bound {n : Int} {es : List E} (hg : Gn n es) (p : List Int) : ∀ s, wc es p = some s → -10000 * (p.length : Int) ≤ s ∧ s ≤ 10000 * (p.length : Int) := by
  induction p with
  | nil => intro s h; cases h
  | cons u r ih =>
    intro s h
    cases r with
    | nil => cases h; simp
    | cons v r =>
      cases hc : chp u v es with
      | none => rw [wc_gone hc] at h; cases h
      | some c =>
        rw [wc_on hc] at h
        cases h2 : wc es (v :: r) with
        | none => rw [h2] at h; cases h
        | some t =>
          rw [h2] at h
          simp at h
          have h3 := ih t h2
          have h4 := chp_bound' hg hc
          simp only [List.length_cons] at h3 ⊢
          omega
theorem wcode_bound (n : Int) (es : List E) (p : List Int) : -1000000 ≤ (wcode n es p).1 ∧ (wcode n es p).1 ≤ 1000000 := by
  by_cases h : (wcode n es p).2 = 0
  · obtain ⟨h0, h1, h2, h3, h4⟩ := wcode_ok h
    have := wc_bound (nck_zero.1 h0) p _ h4
    omega
  · rw [wcode_bad h]; omega
theorem first_cost : wcode 2 [(0, 1, 5), (0, 1, 4)] [0, 1] = (4, 0) := by kernel_rfl
theorem first_any (w : World) (v u : Value) (hv : SlE w v [(0, 1, 5), (0, 1, 4)]) (hu : SlI w u [0, 1]) :
    Calls Try.prog 9 #[.agg #[.int .i64 2, v], u] w fun e w' => e = .returned (.tuple #[.int .i64 4, .int .i64 0]) ∧ Below w.heap.size w w' := by
  have := cost_any 2 v u [(0, 1, 5), (0, 1, 4)] [0, 1] w hv hu (by simp) (by simp)
  rw [first_cost] at this
  exact this

set_option maxRecDepth 100000 in
set_option maxHeartbeats 16000000 in
theorem walk_no0 (n : Int) (v va vb : Value) (es : List E) (a b : List Int) (w : World) (hv : SlE w v es) (ha : SlI w va a) (hb : SlI w vb b) (_ : es.length ≤ 9223372036854775807) (hla : a.length ≤ 17592186043904) (hlb : b.length ≤ 17592186043904) (h : a.length = 0 ∨ b.length = 0) :
    Calls Try.prog 7 #[.agg #[.int .i64 n, v], va, vb] w fun e w' => e = .returned (.bool true) ∧ Below w.heap.size w w' := by
  have HH : Hid _ := h
  clear h
  obtain ⟨a0, c0, rfl⟩ := hv.val
  obtain ⟨aa, ca, rfl⟩ := ha.val
  obtain ⟨ab, cb, rfl⟩ := hb.val
  have HV : Hid _ := hv
  have HA : Hid _ := ha
  have HB : Hid _ := hb
  clear hv ha hb
  go_enter Try.func7, Try.ntmps7
  go_wp2_with fail
  have P0 : Hid _ := box2_new w n (.slice a0 es.length c0) 24
  have B0 : Hid (Below w.heap.size w (w.alloc (.cells #[.int .i64 n, .slice a0 es.length c0] 24))) := balloc (Below.refl _ _) _
  have hz0 : (w.alloc (.cells #[.int .i64 n, .slice a0 es.length c0] 24)).heap.size = w.heap.size + 1 := by simp
  generalize w.alloc (.cells #[.int .i64 n, .slice a0 es.length c0] 24) = W0 at *
  have E1 : Hid _ := lit_edges W0 [(0, 1, 5), (0, 1, 4)] #[.int .i64 0, .int .i64 1, .int .i64 5, .int .i64 0, .int .i64 1, .int .i64 4] 2 rfl rfl
  have hz1 : (W0.alloc (.cells #[.int .i64 0, .int .i64 1, .int .i64 5, .int .i64 0, .int .i64 1, .int .i64 4] 47)).heap.size = W0.heap.size + 1 := by simp
  have b1 : Below W0.heap.size W0 (W0.alloc (.cells #[.int .i64 0, .int .i64 1, .int .i64 5, .int .i64 0, .int .i64 1, .int .i64 4] 47)) := balloc (Below.refl _ _) _
  generalize W0.alloc (.cells #[.int .i64 0, .int .i64 1, .int .i64 5, .int .i64 0, .int .i64 1, .int .i64 4] 47) = W1 at *
  have L2 : Hid _ := lit_nums W1 [0, 1] #[.int .i64 0, .int .i64 1] 2 rfl rfl
  rw [hz1, hz0] at L2
  rw [hz0] at E1
  have b2 : Below W1.heap.size W1 (W1.alloc (.cells #[.int .i64 0, .int .i64 1] 3)) := balloc (Below.refl _ _) _
  generalize W1.alloc (.cells #[.int .i64 0, .int .i64 1] 3) = W2 at *
  have E2 : Hid _ := E1.out.below b2
  have P2 : Hid _ := P0.out.below (bthen b1 b2)
  have B2 : Hid (Below w.heap.size w W2) := bthen B0.out (bthen b1 b2)
  clear b1 b2 hz0 hz1 P0 B0 E1
  refine (first_any W2 _ _ E2.out L2.out).mono ?_
  rintro e w3 ⟨rfl, b3⟩
  have P3 : Hid _ := P2.out.below b3
  have B3 : Hid (Below w.heap.size w w3) := bthen B2.out b3
  clear b3 P2 B2 E2 L2
  go_wp2_with fail
  refine (join_no0 _ _ a b w3 (HA.out.below B3.out) (HB.out.below B3.out) hla hlb HH.out).mono ?_
  rintro e w4 ⟨rfl, b4⟩
  have B4 : Hid (Below w.heap.size w w4) := bthen B3.out b4
  clear b4
  go_wp2_with fail
  go_ret
  exact ⟨rfl, B4.out⟩

set_option maxRecDepth 100000 in
set_option maxHeartbeats 16000000 in
theorem walk_no1 (n : Int) (v va vb : Value) (es : List E) (a b : List Int) (w : World) (hv : SlE w v es) (ha : SlI w va a) (hb : SlI w vb b) (_ : es.length ≤ 9223372036854775807) (hla : a.length ≤ 17592186043904) (hlb : b.length ≤ 17592186043904) (h0 : a.length ≠ 0) (h1 : b.length ≠ 0) (hj : a.getD (a.length - 1) 0 ≠ b.getD 0 0) :
    Calls Try.prog 7 #[.agg #[.int .i64 n, v], va, vb] w fun e w' => e = .returned (.bool true) ∧ Below w.heap.size w w' := by
  have H0 : Hid (a.length ≠ 0) := h0
  have H1 : Hid (b.length ≠ 0) := h1
  have HJ : Hid _ := hj
  clear h0 h1 hj
  obtain ⟨a0, c0, rfl⟩ := hv.val
  obtain ⟨aa, ca, rfl⟩ := ha.val
  obtain ⟨ab, cb, rfl⟩ := hb.val
  have HV : Hid _ := hv
  have HA : Hid _ := ha
  have HB : Hid _ := hb
  clear hv ha hb
  go_enter Try.func7, Try.ntmps7
  go_wp2_with fail
  have P0 : Hid _ := box2_new w n (.slice a0 es.length c0) 24
  have B0 : Hid (Below w.heap.size w (w.alloc (.cells #[.int .i64 n, .slice a0 es.length c0] 24))) := balloc (Below.refl _ _) _
  have hz0 : (w.alloc (.cells #[.int .i64 n, .slice a0 es.length c0] 24)).heap.size = w.heap.size + 1 := by simp
  generalize w.alloc (.cells #[.int .i64 n, .slice a0 es.length c0] 24) = W0 at *
  have E1 : Hid _ := lit_edges W0 [(0, 1, 5), (0, 1, 4)] #[.int .i64 0, .int .i64 1, .int .i64 5, .int .i64 0, .int .i64 1, .int .i64 4] 2 rfl rfl
  have hz1 : (W0.alloc (.cells #[.int .i64 0, .int .i64 1, .int .i64 5, .int .i64 0, .int .i64 1, .int .i64 4] 47)).heap.size = W0.heap.size + 1 := by simp
  have b1 : Below W0.heap.size W0 (W0.alloc (.cells #[.int .i64 0, .int .i64 1, .int .i64 5, .int .i64 0, .int .i64 1, .int .i64 4] 47)) := balloc (Below.refl _ _) _
  generalize W0.alloc (.cells #[.int .i64 0, .int .i64 1, .int .i64 5, .int .i64 0, .int .i64 1, .int .i64 4] 47) = W1 at *
  have L2 : Hid _ := lit_nums W1 [0, 1] #[.int .i64 0, .int .i64 1] 2 rfl rfl
  rw [hz1, hz0] at L2
  rw [hz0] at E1
  have b2 : Below W1.heap.size W1 (W1.alloc (.cells #[.int .i64 0, .int .i64 1] 3)) := balloc (Below.refl _ _) _
  generalize W1.alloc (.cells #[.int .i64 0, .int .i64 1] 3) = W2 at *
  have E2 : Hid _ := E1.out.below b2
  have P2 : Hid _ := P0.out.below (bthen b1 b2)
  have B2 : Hid (Below w.heap.size w W2) := bthen B0.out (bthen b1 b2)
  clear b1 b2 hz0 hz1 P0 B0 E1
  refine (first_any W2 _ _ E2.out L2.out).mono ?_
  rintro e w3 ⟨rfl, b3⟩
  have P3 : Hid _ := P2.out.below b3
  have B3 : Hid (Below w.heap.size w w3) := bthen B2.out b3
  clear b3 P2 B2 E2 L2
  go_wp2_with fail
  refine (join_no1 _ _ a b w3 (HA.out.below B3.out) (HB.out.below B3.out) hla hlb H0.out H1.out HJ.out).mono ?_
  rintro e w4 ⟨rfl, b4⟩
  have B4 : Hid (Below w.heap.size w w4) := bthen B3.out b4
  clear b4
  go_wp2_with fail
  go_ret
  exact ⟨rfl, B4.out⟩

set_option maxRecDepth 100000 in
set_option maxHeartbeats 16000000 in
theorem walk_yes (n : Int) (v va vb : Value) (es : List E) (a b : List Int) (w : World) (hv : SlE w v es) (ha : SlI w va a) (hb : SlI w vb b) (hlen : es.length ≤ 9223372036854775807) (hla : a.length ≤ 17592186043904) (hlb : b.length ≤ 17592186043904) (h0 : a.length ≠ 0) (h1 : b.length ≠ 0) (hj : a.getD (a.length - 1) 0 = b.getD 0 0) :
    Calls Try.prog 7 #[.agg #[.int .i64 n, v], va, vb] w fun e w' => e = .returned (.bool true) ∧ Below w.heap.size w w' := by
  have H0 : Hid (a.length ≠ 0) := h0
  have H1 : Hid (b.length ≠ 0) := h1
  have HJ : Hid _ := hj
  obtain ⟨l, hll⟩ : ∃ l, a ++ b.tail = l := ⟨_, rfl⟩
  have HLL : Hid _ := hll
  have hl2 : l.length ≤ 35184372087808 := by rw [← hll]; simp; omega
  have HJN : Hid _ := @wcode_join n es a b (fun e => h0 (by rw [e]; rfl)) (fun e => h1 (by rw [e]; rfl)) hj
  rw [hll] at HJN
  have HLG : Hid _ := fun h => (@wcode_ok n es l h).2.2.1
  have HBD : Hid _ := @wcode_bad n es l
  have hba := wcode_bound n es a
  have hbb := wcode_bound n es b
  have HCA : Hid (∀ w v va, SlE w v es → SlI w va a → _) := fun w v va hv hu => cost_any n v va es a w hv hu hlen (by omega)
  have HCB : Hid (∀ w v va, SlE w v es → SlI w va b → _) := fun w v va hv hu => cost_any n v va es b w hv hu hlen (by omega)
  have HCL : Hid (∀ w v va, SlE w v es → SlI w va l → _) := fun w v va hv hu => cost_any n v va es l w hv hu hlen (by omega)
  clear h0 h1 hj hll
  generalize (wcode n es a).1 = x at *
  generalize (wcode n es a).2 = f at *
  generalize (wcode n es b).1 = y at *
  generalize (wcode n es b).2 = h at *
  generalize (wcode n es l).1 = c at *
  generalize (wcode n es l).2 = d at *
  obtain ⟨a0, c0, rfl⟩ := hv.val
  obtain ⟨aa, ca, rfl⟩ := ha.val
  obtain ⟨ab, cb, rfl⟩ := hb.val
  have HV : Hid _ := hv
  have HA : Hid _ := ha
  have HB : Hid _ := hb
  clear hv ha hb
  go_enter Try.func7, Try.ntmps7
  go_wp2_with fail
  have P0 : Hid _ := box2_new w n (.slice a0 es.length c0) 24
  have B0 : Hid (Below w.heap.size w (w.alloc (.cells #[.int .i64 n, .slice a0 es.length c0] 24))) := balloc (Below.refl _ _) _
  have hz0 : (w.alloc (.cells #[.int .i64 n, .slice a0 es.length c0] 24)).heap.size = w.heap.size + 1 := by simp
  generalize w.alloc (.cells #[.int .i64 n, .slice a0 es.length c0] 24) = W0 at *
  have E1 : Hid _ := lit_edges W0 [(0, 1, 5), (0, 1, 4)] #[.int .i64 0, .int .i64 1, .int .i64 5, .int .i64 0, .int .i64 1, .int .i64 4] 2 rfl rfl
  have hz1 : (W0.alloc (.cells #[.int .i64 0, .int .i64 1, .int .i64 5, .int .i64 0, .int .i64 1, .int .i64 4] 47)).heap.size = W0.heap.size + 1 := by simp
  have b1 : Below W0.heap.size W0 (W0.alloc (.cells #[.int .i64 0, .int .i64 1, .int .i64 5, .int .i64 0, .int .i64 1, .int .i64 4] 47)) := balloc (Below.refl _ _) _
  generalize W0.alloc (.cells #[.int .i64 0, .int .i64 1, .int .i64 5, .int .i64 0, .int .i64 1, .int .i64 4] 47) = W1 at *
  have L2 : Hid _ := lit_nums W1 [0, 1] #[.int .i64 0, .int .i64 1] 2 rfl rfl
  rw [hz1, hz0] at L2
  rw [hz0] at E1
  have b2 : Below W1.heap.size W1 (W1.alloc (.cells #[.int .i64 0, .int .i64 1] 3)) := balloc (Below.refl _ _) _
  generalize W1.alloc (.cells #[.int .i64 0, .int .i64 1] 3) = W2 at *
  have E2 : Hid _ := E1.out.below b2
  have P2 : Hid _ := P0.out.below (bthen b1 b2)
  have B2 : Hid (Below w.heap.size w W2) := bthen B0.out (bthen b1 b2)
  clear b1 b2 hz0 hz1 P0 B0 E1
  refine (first_any W2 _ _ E2.out L2.out).mono ?_
  rintro e w3 ⟨rfl, b3⟩
  have P3 : Hid _ := P2.out.below b3
  have B3 : Hid (Below w.heap.size w w3) := bthen B2.out b3
  clear b3 P2 B2 E2 L2
  go_wp2_with fail
  refine (join_yes _ _ a b w3 (HA.out.below B3.out) (HB.out.below B3.out) hla hlb H0.out H1.out HJ.out).mono ?_
  rintro e w4 ⟨u4, rfl, io4, b4⟩
  rw [HLL.out] at io4
  obtain ⟨au, cu, rfl⟩ := io4.sl.val
  have I4 : Hid _ := io4.sl
  have P4 : Hid _ := P3.out.below b4
  have B4 : Hid (Below w.heap.size w w4) := bthen B3.out b4
  clear io4 b4 P3 B3
  obtain ⟨p0, p1⟩ := P4.out
  go_wp2_with fail
  clear p0 p1
  refine (HCA.out w4 _ _ (HV.out.below B4.out) (HA.out.below B4.out)).mono ?_
  rintro e w5 ⟨rfl, b5⟩
  have I5 : Hid _ := I4.out.below b5
  have P5 : Hid _ := P4.out.below b5
  have B5 : Hid (Below w.heap.size w w5) := bthen B4.out b5
  clear b5 I4 P4 B4
  obtain ⟨p0, p1⟩ := P5.out
  go_wp2_with fail
  clear p0 p1
  refine (HCB.out w5 _ _ (HV.out.below B5.out) (HB.out.below B5.out)).mono ?_
  rintro e w6 ⟨rfl, b6⟩
  have I6 : Hid _ := I5.out.below b6
  have P6 : Hid _ := P5.out.below b6
  have B6 : Hid (Below w.heap.size w w6) := bthen B5.out b6
  clear b6 I5 P5 B5
  obtain ⟨p0, p1⟩ := P6.out
  go_wp2_with fail
  clear p0 p1
  refine (HCL.out w6 _ _ (HV.out.below B6.out) I6.out).mono ?_
  rintro e w7 ⟨rfl, b7⟩
  have B7 : Hid (Below w.heap.size w w7) := bthen B6.out b7
  clear b7 I6 P6 B6
  by_cases hd : d = 0
  · obtain ⟨e1, e2, e3⟩ := HJN.out hd
    have h9 := HLG.out hd
    have hi : ¬ (100 : Int) < (l.length : Int) := by omega
    subst hd e1 e2 e3
    go_wp2_with fail
    go_ret
    exact ⟨rfl, B7.out⟩
  · have e1 := HBD.out hd
    subst e1
    have hdn : (d != 0) = true := by simp [hd]
    have hde : (d == 0) = false := by simp [hd]
    clear hd
    by_cases hi : (100 : Int) < (l.length : Int)
    · go_wp2_with fail
      go_ret
      exact ⟨rfl, B7.out⟩
    · cases q1 : (f == 0)
      all_goals
        cases q2 : (h == 0)
      all_goals
        cases q3 : ((0 : Int) == x + y)
      all_goals
        go_wp2_with fail
        go_ret
        exact ⟨rfl, B7.out⟩

theorem walk (n : Int) (v va vb : Value) (es : List E) (a b : List Int) (w : World) (hv : SlE w v es) (ha : SlI w va a) (hb : SlI w vb b) (hlen : es.length ≤ 9223372036854775807) (hla : a.length ≤ 17592186043904) (hlb : b.length ≤ 17592186043904) :
    Calls Try.prog 7 #[.agg #[.int .i64 n, v], va, vb] w fun e w' => e = .returned (.bool true) ∧ Below w.heap.size w w' := by
  by_cases h0 : a.length = 0
  · exact walk_no0 n v va vb es a b w hv ha hb hlen hla hlb (.inl h0)
  · by_cases h1 : b.length = 0
    · exact walk_no0 n v va vb es a b w hv ha hb hlen hla hlb (.inr h1)
    · by_cases hj : a.getD (a.length - 1) 0 = b.getD 0 0
      · exact walk_yes n v va vb es a b w hv ha hb hlen hla hlb h0 h1 hj
      · exact walk_no1 n v va vb es a b w hv ha hb hlen hla hlb h0 h1 hj
end Go.Proofs.Ytfgdcglgloahfaa.WParts
