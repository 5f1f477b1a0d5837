/-
  The law felllaw.WalkCuts, walked.
-/
import Derived.Test.YtfgdcglgloahfaaCC
import Derived.Test.YtfgdcglgloahfaaCD
import Derived.Test.YtfgdcglgloahfaaIE
namespace Go.Proofs.Ytfgdcglgloahfaa.WCuts
open Go.RowKit
open Nm Wm Cm
attribute [local go_sem ↓] Go.wp_at_zero Go.wp_at_succ

theorem dropLast_cells {w : World} {g off : Nat} {a : List Int} {m : Nat} (hm : a.length = m + 1) (h : ∀ i, i < a.length → w.cell? ⟨g, off + i, none⟩ = some (.int .i64 (a.getD i 0))) : ∀ i, i < a.dropLast.length → w.cell? ⟨g, off + i, none⟩ = some (.int .i64 (a.dropLast.getD i 0)) := by
  intro i hi
  simp at hi
  rw [h i (by omega)]
  simp [List.getD_eq_getElem?_getD, hi, show i < a.length by omega]
theorem join_eq {a b : List Int} {m : Nat} (hm : a.length = m + 1) (h1 : b.length ≠ 0) (heq : a.getD m 0 = b.getD 0 0) : a.dropLast ++ b = a ++ b.tail := by
  have ha : a ≠ [] := by intro e; simp [e] at hm
  cases b with
  | nil => simp at h1
  | cons x r =>
    have h2 := List.dropLast_concat_getLast ha
    have h3 : a.getLast ha = x := by
      rw [List.getLast_eq_getElem]
      simpa [List.getD_eq_getElem?_getD, hm] using heq
    rw [h3] at h2
    conv => rhs; rw [← h2]
    simp

set_option maxRecDepth 100000 in
set_option maxHeartbeats 16000000 in
theorem walk_nil (va vb : Value) (a b : List Int) (w : World) (ha : SlI w va a) (hb : SlI w vb b) (hla : a.length ≤ 17592186043904) (hlb : b.length ≤ 17592186043904) (h0 : a.length = 0) :
    Calls Try.prog 4 #[va, vb] w fun e w' => e = .returned (.bool true) ∧ Below w.heap.size w w' := by
  obtain ⟨a0, c0, rfl⟩ := ha.val
  obtain ⟨a1, c1, rfl⟩ := hb.val
  have HC : Hid (bnd a = 1) := by unfold Hid bnd; rw [if_pos h0]
  have HA : Hid _ := ha
  have HB : Hid _ := hb
  have H0 : Hid _ := h0
  have h0i : ((a.length : Int) == 0) = true := by simp [h0]
  clear ha hb h0
  go_enter Try.func4, Try.ntmps4
  go_wp2_with fail
  refine (cut_bad a _ w HA.out (by omega) (by rw [HC.out]; decide)).mono ?_
  rintro e w1 ⟨rfl, rfl⟩
  rw [HC.out]
  go_wp2_with fail
  refine (join_no0 _ _ a b w1 HA.out HB.out hla hlb (.inl H0.out)).mono ?_
  rintro e w2 ⟨rfl, b2⟩
  go_wp2_with fail
  go_quiet (fail)
  go_wp2_with fail
  go_ret
  exact ⟨rfl, bdrewN b2 _⟩

set_option maxRecDepth 100000 in
set_option maxHeartbeats 16000000 in
theorem walk_long_no0 (va vb : Value) (a b : List Int) (w : World) (ha : SlI w va a) (hb : SlI w vb b) (hla : a.length ≤ 17592186043904) (hlb : b.length ≤ 17592186043904) (h0 : a.length ≠ 0) (hlong : 100 < a.length) (h1 : b.length = 0) :
    Calls Try.prog 4 #[va, vb] w fun e w' => e = .returned (.bool true) ∧ Below w.heap.size w w' := by
  obtain ⟨ga, oa, ca, rfl, hca, hcapa⟩ := ha.some2 (by omega)
  obtain ⟨m, hm⟩ : ∃ m, a.length = m + 1 := ⟨a.length - 1, by omega⟩
  have HCA : Hid (∀ i, i < a.length → w.cell? ⟨ga, oa + i, none⟩ = some (.int .i64 (a.getD i 0))) := hca
  have HM : Hid _ := hm
  have HNZ : Hid (a.length ≠ 0) := h0
  have HHL : Hid (a.length ≤ 17592186043904) := hla
  rw [hm] at ha ⊢
  have hml : m + 1 ≤ 17592186043904 := by omega
  have h0i : ((m : Int) + 1 == 0) = false := beq_eq_false_iff_ne.2 (by omega)
  have hmi : (m : Int) < (m : Int) + 1 := by omega
  have hcapi : (m : Int) ≤ (ca : Int) := by omega
  have HA : Hid _ := ha
  obtain ⟨a1, c1, rfl⟩ := hb.val
  have HB : Hid _ := hb
  have h1i : ((b.length : Int) == 0) = true := by simp [h1]
  have H1 : Hid _ := h1
  clear ha hb h0 h1 hm hca hcapa hla
  have HC : Hid (bnd a = 2) := by have := HM.out; unfold Hid bnd; rw [if_neg (by omega), if_pos (by omega)]
  have hli : (100 : Int) < (m : Int) + 1 := by have := HM.out; omega
  go_enter Try.func4, Try.ntmps4
  go_wp2_with fail
  refine (cut_bad a _ w HA.out (by have := HM.out; omega) (by rw [HC.out]; decide)).mono ?_
  rintro e w1 ⟨rfl, rfl⟩
  rw [HC.out]
  go_wp2_with fail
  have B1 : Hid (Below w1.heap.size w1 w1) := Below.refl _ _
  refine (join_no0 _ _ a b w1 (HA.out.below B1.out) (HB.out.below B1.out) HHL.out hlb (.inr H1.out)).mono ?_
  rintro e w2 ⟨rfl, b2⟩
  go_wp2_with fail
  go_quiet (fail)
  go_wp2_with fail
  go_ret
  exact ⟨rfl, bdrewN (bthen B1.out b2) _⟩

set_option maxRecDepth 100000 in
set_option maxHeartbeats 16000000 in
theorem walk_long_no1 (va vb : Value) (a b : List Int) (w : World) (ha : SlI w va a) (hb : SlI w vb b) (hla : a.length ≤ 17592186043904) (hlb : b.length ≤ 17592186043904) (h0 : a.length ≠ 0) (hlong : 100 < a.length) (h1 : b.length ≠ 0) (hj : a.getD (a.length - 1) 0 ≠ b.getD 0 0) :
    Calls Try.prog 4 #[va, vb] w fun e w' => e = .returned (.bool true) ∧ Below w.heap.size w w' := by
  obtain ⟨ga, oa, ca, rfl, hca, hcapa⟩ := ha.some2 (by omega)
  obtain ⟨m, hm⟩ : ∃ m, a.length = m + 1 := ⟨a.length - 1, by omega⟩
  have HCA : Hid (∀ i, i < a.length → w.cell? ⟨ga, oa + i, none⟩ = some (.int .i64 (a.getD i 0))) := hca
  have HM : Hid _ := hm
  have HNZ : Hid (a.length ≠ 0) := h0
  have HHL : Hid (a.length ≤ 17592186043904) := hla
  rw [hm] at ha ⊢
  have hml : m + 1 ≤ 17592186043904 := by omega
  have h0i : ((m : Int) + 1 == 0) = false := beq_eq_false_iff_ne.2 (by omega)
  have hmi : (m : Int) < (m : Int) + 1 := by omega
  have hcapi : (m : Int) ≤ (ca : Int) := by omega
  have HA : Hid _ := ha
  obtain ⟨gb, ob, cb, rfl, hcb⟩ := hb.some' (by omega)
  have HB : Hid _ := hb
  have HCB : Hid (∀ i, i < b.length → w.cell? ⟨gb, ob + i, none⟩ = some (.int .i64 (b.getD i 0))) := hcb
  have h1i : ((b.length : Int) == 0) = false := by simp; exact fun e => h1 (by simp [e])
  have h1p : (0 : Int) < (b.length : Int) := by omega
  have H1 : Hid (b.length ≠ 0) := h1
  have HJ : Hid _ := hj
  rw [hm, Nat.add_sub_cancel] at hj
  have d0 := hca m (by omega)
  have d1 := hcb 0 (by omega)
  rw [Nat.add_zero] at d1
  obtain ⟨x, hx⟩ : ∃ x, a.getD m 0 = x := ⟨_, rfl⟩
  obtain ⟨y, hy⟩ : ∃ y, b.getD 0 0 = y := ⟨_, rfl⟩
  rw [hx] at d0 hj
  rw [hy] at d1 hj
  have hjb : (x != y) = true := by simp [hj]
  have D0 : Hid (∀ w', Below w.heap.size w w' → w'.cell? ⟨ga, oa + m, none⟩ = some (.int .i64 x) ∧ w'.cell? ⟨gb, ob, none⟩ = some (.int .i64 y)) := fun w' hb => ⟨kept hb d0, kept hb d1⟩
  clear ha hb h0 h1 hm hca hcapa hla hj hx hy d0 d1 hcb
  have HC : Hid (bnd a = 2) := by have := HM.out; unfold Hid bnd; rw [if_neg (by omega), if_pos (by omega)]
  have hli : (100 : Int) < (m : Int) + 1 := by have := HM.out; omega
  go_enter Try.func4, Try.ntmps4
  go_wp2_with fail
  refine (cut_bad a _ w HA.out (by have := HM.out; omega) (by rw [HC.out]; decide)).mono ?_
  rintro e w1 ⟨rfl, rfl⟩
  rw [HC.out]
  go_wp2_with fail
  have B1 : Hid (Below w1.heap.size w1 w1) := Below.refl _ _
  refine (join_no1 _ _ a b w1 (HA.out.below B1.out) (HB.out.below B1.out) HHL.out hlb HNZ.out H1.out HJ.out).mono ?_
  rintro e w2 ⟨rfl, b2⟩
  have B2 : Hid (Below w1.heap.size w1 w2) := bthen B1.out b2
  obtain ⟨d0, d1⟩ := D0.out w2 B2.out
  clear b2
  go_wp2_with fail
  go_quiet (fail)
  go_wp2_with fail
  go_ret
  exact ⟨rfl, bdrewN B2.out _⟩

set_option maxRecDepth 100000 in
set_option maxHeartbeats 16000000 in
theorem walk_long_yes (va vb : Value) (a b : List Int) (w : World) (ha : SlI w va a) (hb : SlI w vb b) (hla : a.length ≤ 17592186043904) (hlb : b.length ≤ 17592186043904) (h0 : a.length ≠ 0) (hlong : 100 < a.length) (h1 : b.length ≠ 0) (hj : a.getD (a.length - 1) 0 = b.getD 0 0) :
    Calls Try.prog 4 #[va, vb] w fun e w' => e = .returned (.bool true) ∧ Below w.heap.size w w' := by
  obtain ⟨ga, oa, ca, rfl, hca, hcapa⟩ := ha.some2 (by omega)
  obtain ⟨m, hm⟩ : ∃ m, a.length = m + 1 := ⟨a.length - 1, by omega⟩
  have HCA : Hid (∀ i, i < a.length → w.cell? ⟨ga, oa + i, none⟩ = some (.int .i64 (a.getD i 0))) := hca
  have HM : Hid _ := hm
  have HNZ : Hid (a.length ≠ 0) := h0
  have HHL : Hid (a.length ≤ 17592186043904) := hla
  rw [hm] at ha ⊢
  have hml : m + 1 ≤ 17592186043904 := by omega
  have h0i : ((m : Int) + 1 == 0) = false := beq_eq_false_iff_ne.2 (by omega)
  have hmi : (m : Int) < (m : Int) + 1 := by omega
  have hcapi : (m : Int) ≤ (ca : Int) := by omega
  have HA : Hid _ := ha
  obtain ⟨gb, ob, cb, rfl, hcb⟩ := hb.some' (by omega)
  have HB : Hid _ := hb
  have HCB : Hid (∀ i, i < b.length → w.cell? ⟨gb, ob + i, none⟩ = some (.int .i64 (b.getD i 0))) := hcb
  have h1i : ((b.length : Int) == 0) = false := by simp; exact fun e => h1 (by simp [e])
  have h1p : (0 : Int) < (b.length : Int) := by omega
  have H1 : Hid (b.length ≠ 0) := h1
  have HJ : Hid _ := hj
  rw [hm, Nat.add_sub_cancel] at hj
  have d0 := hca m (by omega)
  have d1 := hcb 0 (by omega)
  rw [Nat.add_zero] at d1
  obtain ⟨l, hll⟩ : ∃ l, a ++ b.tail = l := ⟨_, rfl⟩
  have HLL : Hid _ := hll
  have HQ : Hid _ := join_eq hm h1 hj
  rw [hll] at HQ
  have hl2 : l.length ≤ 35184372087808 := by rw [← hll]; simp; omega
  clear hll
  rw [hj] at d0
  obtain ⟨x, hx⟩ : ∃ x, b.getD 0 0 = x := ⟨_, rfl⟩
  rw [hx] at d0 d1
  have D0 : Hid (∀ w', Below w.heap.size w w' → w'.cell? ⟨ga, oa + m, none⟩ = some (.int .i64 x) ∧ w'.cell? ⟨gb, ob, none⟩ = some (.int .i64 x)) := fun w' hb => ⟨kept hb d0, kept hb d1⟩
  clear ha hb h0 h1 hm hca hcapa hla hj hx d0 d1 hcb
  have HC : Hid (bnd a = 2) := by have := HM.out; unfold Hid bnd; rw [if_neg (by omega), if_pos (by omega)]
  have hli : (100 : Int) < (m : Int) + 1 := by have := HM.out; omega
  go_enter Try.func4, Try.ntmps4
  go_wp2_with fail
  refine (cut_bad a _ w HA.out (by have := HM.out; omega) (by rw [HC.out]; decide)).mono ?_
  rintro e w1 ⟨rfl, rfl⟩
  rw [HC.out]
  go_wp2_with fail
  have B1 : Hid (Below w1.heap.size w1 w1) := Below.refl _ _
  refine (join_yes _ _ a b w1 (HA.out.below B1.out) (HB.out.below B1.out) HHL.out hlb HNZ.out H1.out HJ.out).mono ?_
  rintro e w2 ⟨u3, rfl, io3, b2⟩
  rw [HLL.out] at io3
  obtain ⟨au3, cu3, rfl⟩ := io3.sl.val
  have IO3 : Hid _ := io3.sl
  have B2 : Hid (Below w1.heap.size w1 w2) := bthen B1.out b2
  obtain ⟨d0, d1⟩ := D0.out w2 B2.out
  clear b2 io3
  go_wp2_with fail
  go_quiet (fail)
  go_wp2_with fail
  have B3 : Hid (Below w1.heap.size w1 ((w2.drewN nq).alloc (.cells #[.slice (some ⟨ga, oa, none⟩) m ca, .slice (some ⟨gb, ob, none⟩) b.length cb] 25))) := balloc (bdrewN B2.out _) _
  have I3 : Hid _ := IO3.out.below (balloc (bdrewN (Below.refl _ _) nq) (.cells #[.slice (some ⟨ga, oa, none⟩) m ca, .slice (some ⟨gb, ob, none⟩) b.length cb] 25))
  have L0 : Hid _ := cell_new (w2.drewN nq) #[.slice (some ⟨ga, oa, none⟩) m ca, .slice (some ⟨gb, ob, none⟩) b.length cb] 25 0 _ rfl
  have L1 : Hid _ := cell_new (w2.drewN nq) #[.slice (some ⟨ga, oa, none⟩) m ca, .slice (some ⟨gb, ob, none⟩) b.length cb] 25 1 _ rfl
  have e9 : a.dropLast.length = m := by have := HM.out; simp; omega
  have hcc := concat_any w2.heap.size ga oa ca gb ob cb a.dropLast b ((w2.drewN nq).alloc (.cells #[.slice (some ⟨ga, oa, none⟩) m ca, .slice (some ⟨gb, ob, none⟩) b.length cb] 25)) (by omega) hlb (by have := H1.out; omega) (dropLast_cells HM.out (fun i hi => kept B3.out (HCA.out i hi))) (fun i hi => kept B3.out (HCB.out i hi)) (by rw [e9]; exact L0.out) L1.out
  refine hcc.mono ?_
  rintro e w4 ⟨u4, rfl, io4, b4⟩
  rw [HQ.out] at io4
  obtain ⟨au4, cu4, rfl⟩ := io4.sl.val
  have I5 : Hid _ := I3.out.below b4
  have I4 : Hid _ := io4.sl
  have B4 : Hid (Below w1.heap.size w1 w4) := bthen B3.out b4
  clear hcc io4 b4
  go_wp2_with fail
  refine (iequal_yes _ _ l w4 I5.out I4.out (by omega)).mono ?_
  rintro e w5 ⟨rfl, b5⟩
  go_wp2_with fail
  go_ret
  exact ⟨rfl, bthen B4.out b5⟩

set_option maxRecDepth 100000 in
set_option maxHeartbeats 16000000 in
theorem walk_cut_no0 (va vb : Value) (a b : List Int) (w : World) (ha : SlI w va a) (hb : SlI w vb b) (hla : a.length ≤ 17592186043904) (hlb : b.length ≤ 17592186043904) (h0 : a.length ≠ 0) (hlong : ¬ 100 < a.length) (hwf : ∀ k, k < a.length → (Lit.int .i64 (a.getD k 0)).wf = true) (h1 : b.length = 0) :
    Calls Try.prog 4 #[va, vb] w fun e w' => e = .returned (.bool true) ∧ Below w.heap.size w w' := by
  have HWF : Hid _ := hwf
  clear hwf
  obtain ⟨ga, oa, ca, rfl, hca, hcapa⟩ := ha.some2 (by omega)
  obtain ⟨m, hm⟩ : ∃ m, a.length = m + 1 := ⟨a.length - 1, by omega⟩
  have HCA : Hid (∀ i, i < a.length → w.cell? ⟨ga, oa + i, none⟩ = some (.int .i64 (a.getD i 0))) := hca
  have HM : Hid _ := hm
  have HNZ : Hid (a.length ≠ 0) := h0
  have HHL : Hid (a.length ≤ 17592186043904) := hla
  rw [hm] at ha ⊢
  have hml : m + 1 ≤ 17592186043904 := by omega
  have h0i : ((m : Int) + 1 == 0) = false := beq_eq_false_iff_ne.2 (by omega)
  have hmi : (m : Int) < (m : Int) + 1 := by omega
  have hcapi : (m : Int) ≤ (ca : Int) := by omega
  have HA : Hid _ := ha
  obtain ⟨a1, c1, rfl⟩ := hb.val
  have HB : Hid _ := hb
  have h1i : ((b.length : Int) == 0) = true := by simp [h1]
  have H1 : Hid _ := h1
  clear ha hb h0 h1 hm hca hcapa hla
  have HC : Hid (bnd a = 0) := by have := HM.out; unfold Hid bnd; rw [if_neg (by omega), if_neg (by omega)]
  have hli : ¬ (100 : Int) < (m : Int) + 1 := by have := HM.out; omega
  have HCL : Hid _ := cut_length a
  go_enter Try.func4, Try.ntmps4
  go_wp2_with fail
  refine (cut_yes a _ w HA.out HC.out HWF.out).mono ?_
  rintro e w0 ⟨u, rfl, io, b0⟩
  obtain ⟨au, cu, rfl⟩ := io.sl.val
  have HIO : Hid _ := io.sl
  have B0 : Hid (Below w.heap.size w w0) := b0
  clear io b0
  go_wp2_with fail
  refine (rcut_any 100 a _ w0 (by have := HM.out; omega) (HA.out.below B0.out) (by have := HM.out; omega) (by have := HM.out; omega)).mono ?_
  rintro e w00 ⟨u2, rfl, io2, b2⟩
  obtain ⟨au2, cu2, rfl⟩ := io2.sl.val
  have IO2 : Hid _ := io2.sl
  have HIO1 : Hid _ := HIO.out.below b2
  have B00 : Hid (Below w.heap.size w w00) := bthen B0.out b2
  clear io2 b2 HIO B0
  go_wp2_with fail
  refine (iequal_yes _ _ (cut a) w00 HIO1.out IO2.out (by have := HCL.out; have := HM.out; omega)).mono ?_
  rintro e w1 ⟨rfl, b1⟩
  have B1 : Hid (Below w.heap.size w w1) := bthen B00.out b1
  clear b1 B00 HIO1 IO2
  go_wp2_with fail
  refine (join_no0 _ _ a b w1 (HA.out.below B1.out) (HB.out.below B1.out) HHL.out hlb (.inr H1.out)).mono ?_
  rintro e w2 ⟨rfl, b2⟩
  go_wp2_with fail
  go_quiet (fail)
  go_wp2_with fail
  go_ret
  exact ⟨rfl, bdrewN (bthen B1.out b2) _⟩

set_option maxRecDepth 100000 in
set_option maxHeartbeats 16000000 in
theorem walk_cut_no1 (va vb : Value) (a b : List Int) (w : World) (ha : SlI w va a) (hb : SlI w vb b) (hla : a.length ≤ 17592186043904) (hlb : b.length ≤ 17592186043904) (h0 : a.length ≠ 0) (hlong : ¬ 100 < a.length) (hwf : ∀ k, k < a.length → (Lit.int .i64 (a.getD k 0)).wf = true) (h1 : b.length ≠ 0) (hj : a.getD (a.length - 1) 0 ≠ b.getD 0 0) :
    Calls Try.prog 4 #[va, vb] w fun e w' => e = .returned (.bool true) ∧ Below w.heap.size w w' := by
  have HWF : Hid _ := hwf
  clear hwf
  obtain ⟨ga, oa, ca, rfl, hca, hcapa⟩ := ha.some2 (by omega)
  obtain ⟨m, hm⟩ : ∃ m, a.length = m + 1 := ⟨a.length - 1, by omega⟩
  have HCA : Hid (∀ i, i < a.length → w.cell? ⟨ga, oa + i, none⟩ = some (.int .i64 (a.getD i 0))) := hca
  have HM : Hid _ := hm
  have HNZ : Hid (a.length ≠ 0) := h0
  have HHL : Hid (a.length ≤ 17592186043904) := hla
  rw [hm] at ha ⊢
  have hml : m + 1 ≤ 17592186043904 := by omega
  have h0i : ((m : Int) + 1 == 0) = false := beq_eq_false_iff_ne.2 (by omega)
  have hmi : (m : Int) < (m : Int) + 1 := by omega
  have hcapi : (m : Int) ≤ (ca : Int) := by omega
  have HA : Hid _ := ha
  obtain ⟨gb, ob, cb, rfl, hcb⟩ := hb.some' (by omega)
  have HB : Hid _ := hb
  have HCB : Hid (∀ i, i < b.length → w.cell? ⟨gb, ob + i, none⟩ = some (.int .i64 (b.getD i 0))) := hcb
  have h1i : ((b.length : Int) == 0) = false := by simp; exact fun e => h1 (by simp [e])
  have h1p : (0 : Int) < (b.length : Int) := by omega
  have H1 : Hid (b.length ≠ 0) := h1
  have HJ : Hid _ := hj
  rw [hm, Nat.add_sub_cancel] at hj
  have d0 := hca m (by omega)
  have d1 := hcb 0 (by omega)
  rw [Nat.add_zero] at d1
  obtain ⟨x, hx⟩ : ∃ x, a.getD m 0 = x := ⟨_, rfl⟩
  obtain ⟨y, hy⟩ : ∃ y, b.getD 0 0 = y := ⟨_, rfl⟩
  rw [hx] at d0 hj
  rw [hy] at d1 hj
  have hjb : (x != y) = true := by simp [hj]
  have D0 : Hid (∀ w', Below w.heap.size w w' → w'.cell? ⟨ga, oa + m, none⟩ = some (.int .i64 x) ∧ w'.cell? ⟨gb, ob, none⟩ = some (.int .i64 y)) := fun w' hb => ⟨kept hb d0, kept hb d1⟩
  clear ha hb h0 h1 hm hca hcapa hla hj hx hy d0 d1 hcb
  have HC : Hid (bnd a = 0) := by have := HM.out; unfold Hid bnd; rw [if_neg (by omega), if_neg (by omega)]
  have hli : ¬ (100 : Int) < (m : Int) + 1 := by have := HM.out; omega
  have HCL : Hid _ := cut_length a
  go_enter Try.func4, Try.ntmps4
  go_wp2_with fail
  refine (cut_yes a _ w HA.out HC.out HWF.out).mono ?_
  rintro e w0 ⟨u, rfl, io, b0⟩
  obtain ⟨au, cu, rfl⟩ := io.sl.val
  have HIO : Hid _ := io.sl
  have B0 : Hid (Below w.heap.size w w0) := b0
  clear io b0
  go_wp2_with fail
  refine (rcut_any 100 a _ w0 (by have := HM.out; omega) (HA.out.below B0.out) (by have := HM.out; omega) (by have := HM.out; omega)).mono ?_
  rintro e w00 ⟨u2, rfl, io2, b2⟩
  obtain ⟨au2, cu2, rfl⟩ := io2.sl.val
  have IO2 : Hid _ := io2.sl
  have HIO1 : Hid _ := HIO.out.below b2
  have B00 : Hid (Below w.heap.size w w00) := bthen B0.out b2
  clear io2 b2 HIO B0
  go_wp2_with fail
  refine (iequal_yes _ _ (cut a) w00 HIO1.out IO2.out (by have := HCL.out; have := HM.out; omega)).mono ?_
  rintro e w1 ⟨rfl, b1⟩
  have B1 : Hid (Below w.heap.size w w1) := bthen B00.out b1
  clear b1 B00 HIO1 IO2
  go_wp2_with fail
  refine (join_no1 _ _ a b w1 (HA.out.below B1.out) (HB.out.below B1.out) HHL.out hlb HNZ.out H1.out HJ.out).mono ?_
  rintro e w2 ⟨rfl, b2⟩
  have B2 : Hid (Below w.heap.size w w2) := bthen B1.out b2
  obtain ⟨d0, d1⟩ := D0.out w2 B2.out
  clear b2
  go_wp2_with fail
  go_quiet (fail)
  go_wp2_with fail
  go_ret
  exact ⟨rfl, bdrewN B2.out _⟩

set_option maxRecDepth 100000 in
set_option maxHeartbeats 16000000 in
theorem walk_cut_yes (va vb : Value) (a b : List Int) (w : World) (ha : SlI w va a) (hb : SlI w vb b) (hla : a.length ≤ 17592186043904) (hlb : b.length ≤ 17592186043904) (h0 : a.length ≠ 0) (hlong : ¬ 100 < a.length) (hwf : ∀ k, k < a.length → (Lit.int .i64 (a.getD k 0)).wf = true) (h1 : b.length ≠ 0) (hj : a.getD (a.length - 1) 0 = b.getD 0 0) :
    Calls Try.prog 4 #[va, vb] w fun e w' => e = .returned (.bool true) ∧ Below w.heap.size w w' := by
  have HWF : Hid _ := hwf
  clear hwf
  obtain ⟨ga, oa, ca, rfl, hca, hcapa⟩ := ha.some2 (by omega)
  obtain ⟨m, hm⟩ : ∃ m, a.length = m + 1 := ⟨a.length - 1, by omega⟩
  have HCA : Hid (∀ i, i < a.length → w.cell? ⟨ga, oa + i, none⟩ = some (.int .i64 (a.getD i 0))) := hca
  have HM : Hid _ := hm
  have HNZ : Hid (a.length ≠ 0) := h0
  have HHL : Hid (a.length ≤ 17592186043904) := hla
  rw [hm] at ha ⊢
  have hml : m + 1 ≤ 17592186043904 := by omega
  have h0i : ((m : Int) + 1 == 0) = false := beq_eq_false_iff_ne.2 (by omega)
  have hmi : (m : Int) < (m : Int) + 1 := by omega
  have hcapi : (m : Int) ≤ (ca : Int) := by omega
  have HA : Hid _ := ha
  obtain ⟨gb, ob, cb, rfl, hcb⟩ := hb.some' (by omega)
  have HB : Hid _ := hb
  have HCB : Hid (∀ i, i < b.length → w.cell? ⟨gb, ob + i, none⟩ = some (.int .i64 (b.getD i 0))) := hcb
  have h1i : ((b.length : Int) == 0) = false := by simp; exact fun e => h1 (by simp [e])
  have h1p : (0 : Int) < (b.length : Int) := by omega
  have H1 : Hid (b.length ≠ 0) := h1
  have HJ : Hid _ := hj
  rw [hm, Nat.add_sub_cancel] at hj
  have d0 := hca m (by omega)
  have d1 := hcb 0 (by omega)
  rw [Nat.add_zero] at d1
  obtain ⟨l, hll⟩ : ∃ l, a ++ b.tail = l := ⟨_, rfl⟩
  have HLL : Hid _ := hll
  have HQ : Hid _ := join_eq hm h1 hj
  rw [hll] at HQ
  have hl2 : l.length ≤ 35184372087808 := by rw [← hll]; simp; omega
  clear hll
  rw [hj] at d0
  obtain ⟨x, hx⟩ : ∃ x, b.getD 0 0 = x := ⟨_, rfl⟩
  rw [hx] at d0 d1
  have D0 : Hid (∀ w', Below w.heap.size w w' → w'.cell? ⟨ga, oa + m, none⟩ = some (.int .i64 x) ∧ w'.cell? ⟨gb, ob, none⟩ = some (.int .i64 x)) := fun w' hb => ⟨kept hb d0, kept hb d1⟩
  clear ha hb h0 h1 hm hca hcapa hla hj hx d0 d1 hcb
  have HC : Hid (bnd a = 0) := by have := HM.out; unfold Hid bnd; rw [if_neg (by omega), if_neg (by omega)]
  have hli : ¬ (100 : Int) < (m : Int) + 1 := by have := HM.out; omega
  have HCL : Hid _ := cut_length a
  go_enter Try.func4, Try.ntmps4
  go_wp2_with fail
  refine (cut_yes a _ w HA.out HC.out HWF.out).mono ?_
  rintro e w0 ⟨u, rfl, io, b0⟩
  obtain ⟨au, cu, rfl⟩ := io.sl.val
  have HIO : Hid _ := io.sl
  have B0 : Hid (Below w.heap.size w w0) := b0
  clear io b0
  go_wp2_with fail
  refine (rcut_any 100 a _ w0 (by have := HM.out; omega) (HA.out.below B0.out) (by have := HM.out; omega) (by have := HM.out; omega)).mono ?_
  rintro e w00 ⟨u2, rfl, io2, b2⟩
  obtain ⟨au2, cu2, rfl⟩ := io2.sl.val
  have IO2 : Hid _ := io2.sl
  have HIO1 : Hid _ := HIO.out.below b2
  have B00 : Hid (Below w.heap.size w w00) := bthen B0.out b2
  clear io2 b2 HIO B0
  go_wp2_with fail
  refine (iequal_yes _ _ (cut a) w00 HIO1.out IO2.out (by have := HCL.out; have := HM.out; omega)).mono ?_
  rintro e w1 ⟨rfl, b1⟩
  have B1 : Hid (Below w.heap.size w w1) := bthen B00.out b1
  clear b1 B00 HIO1 IO2
  go_wp2_with fail
  refine (join_yes _ _ a b w1 (HA.out.below B1.out) (HB.out.below B1.out) HHL.out hlb HNZ.out H1.out HJ.out).mono ?_
  rintro e w2 ⟨u3, rfl, io3, b2⟩
  rw [HLL.out] at io3
  obtain ⟨au3, cu3, rfl⟩ := io3.sl.val
  have IO3 : Hid _ := io3.sl
  have B2 : Hid (Below w.heap.size w w2) := bthen B1.out b2
  obtain ⟨d0, d1⟩ := D0.out w2 B2.out
  clear b2 io3
  go_wp2_with fail
  go_quiet (fail)
  go_wp2_with fail
  have B3 : Hid (Below w.heap.size w ((w2.drewN nq).alloc (.cells #[.slice (some ⟨ga, oa, none⟩) m ca, .slice (some ⟨gb, ob, none⟩) b.length cb] 25))) := balloc (bdrewN B2.out _) _
  have I3 : Hid _ := IO3.out.below (balloc (bdrewN (Below.refl _ _) nq) (.cells #[.slice (some ⟨ga, oa, none⟩) m ca, .slice (some ⟨gb, ob, none⟩) b.length cb] 25))
  have L0 : Hid _ := cell_new (w2.drewN nq) #[.slice (some ⟨ga, oa, none⟩) m ca, .slice (some ⟨gb, ob, none⟩) b.length cb] 25 0 _ rfl
  have L1 : Hid _ := cell_new (w2.drewN nq) #[.slice (some ⟨ga, oa, none⟩) m ca, .slice (some ⟨gb, ob, none⟩) b.length cb] 25 1 _ rfl
  have e9 : a.dropLast.length = m := by have := HM.out; simp; omega
  have hcc := concat_any w2.heap.size ga oa ca gb ob cb a.dropLast b ((w2.drewN nq).alloc (.cells #[.slice (some ⟨ga, oa, none⟩) m ca, .slice (some ⟨gb, ob, none⟩) b.length cb] 25)) (by omega) hlb (by have := H1.out; omega) (dropLast_cells HM.out (fun i hi => kept B3.out (HCA.out i hi))) (fun i hi => kept B3.out (HCB.out i hi)) (by rw [e9]; exact L0.out) L1.out
  refine hcc.mono ?_
  rintro e w4 ⟨u4, rfl, io4, b4⟩
  rw [HQ.out] at io4
  obtain ⟨au4, cu4, rfl⟩ := io4.sl.val
  have I5 : Hid _ := I3.out.below b4
  have I4 : Hid _ := io4.sl
  have B4 : Hid (Below w.heap.size w w4) := bthen B3.out b4
  clear hcc io4 b4
  go_wp2_with fail
  refine (iequal_yes _ _ l w4 I5.out I4.out (by omega)).mono ?_
  rintro e w5 ⟨rfl, b5⟩
  go_wp2_with fail
  go_ret
  exact ⟨rfl, bthen B4.out b5⟩

theorem walk (va vb : Value) (a b : List Int) (w : World) (ha : SlI w va a) (hb : SlI w vb b) (hla : a.length ≤ 17592186043904) (hlb : b.length ≤ 17592186043904) (hwf : ∀ k, k < a.length → (Lit.int .i64 (a.getD k 0)).wf = true) :
    Calls Try.prog 4 #[va, vb] w fun e w' => e = .returned (.bool true) ∧ Below w.heap.size w w' := by
  by_cases h0 : a.length = 0
  · exact walk_nil va vb a b w ha hb hla hlb h0
  · by_cases h1 : b.length = 0
    · by_cases hl : 100 < a.length
      · exact walk_long_no0 va vb a b w ha hb hla hlb h0 hl h1
      · exact walk_cut_no0 va vb a b w ha hb hla hlb h0 hl hwf h1
    · by_cases hj : a.getD (a.length - 1) 0 = b.getD 0 0
      · by_cases hl : 100 < a.length
        · exact walk_long_yes va vb a b w ha hb hla hlb h0 hl h1 hj
        · exact walk_cut_yes va vb a b w ha hb hla hlb h0 hl hwf h1 hj
      · by_cases hl : 100 < a.length
        · exact walk_long_no1 va vb a b w ha hb hla hlb h0 hl h1 hj
        · exact walk_cut_no1 va vb a b w ha hb hla hlb h0 hl hwf h1 hj
end Go.Proofs.Ytfgdcglgloahfaa.WCuts
