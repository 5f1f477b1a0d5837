/-
  The law fellkeep.WalkLess, walked.
-/
import Derived.Test.YtfgdcglgloahfabLA
import Derived.Test.YtfgdcglgloahfabWB
import Derived.Test.YtfgdcglgloahfabNB
namespace Go.Proofs.Ytfgdcglgloahfab.WLess
open Go.RowKit
open Nm Wm Cm
attribute [local go_sem ↓] Go.wp_at_zero Go.wp_at_succ

theorem cut_five : cut [1, 2, 3, 2, 4] = [1, 2, 4] := by kernel_rfl
theorem five_any (v : Value) (w : World) (hv : SlI w v [1, 2, 3, 2, 4]) :
    Calls Try.prog 9 #[v] w fun e w' => ∃ u, e = .returned (.tuple #[u, .int .i64 0]) ∧ Is w' w.heap.size u [1, 2, 4] ∧ Below w.heap.size w w' := by
  have := cut_yes [1, 2, 3, 2, 4] v w hv (by kernel_rfl) (fun k hk => by
    rcases (show k = 0 ∨ k = 1 ∨ k = 2 ∨ k = 3 ∨ k = 4 by simp at hk; omega) with rfl | rfl | rfl | rfl | rfl <;> rfl)
  rw [cut_five] at this
  exact this
theorem nodup_at {l : List Int} (h : l.Nodup) {i k : Nat} (hik : i < k) (hk : k < l.length) : l.getD i 0 ≠ l.getD k 0 := by
  intro e
  rw [List.getD_eq_getElem?_getD, List.getD_eq_getElem?_getD, List.getElem?_eq_getElem hk, List.getElem?_eq_getElem (show i < l.length by omega)] at e
  simp at e
  have := (List.getElem_inj h).1 e
  omega


set_option maxRecDepth 100000 in
set_option maxHeartbeats 32000000 in
theorem walk (n : Int) (v u : Value) (es : List E) (p : List Int) (w : World) (hv : SlE w v es) (hu : SlI w u p) (hlen : es.length ≤ 9223372036854775807) (hl : p.length ≤ 17592186043904) (hwf : ∀ k, k < p.length → (Lit.int .i64 (p.getD k 0)).wf = true) :
    Calls Try.prog 3 #[.agg #[.int .i64 n, v], u] w fun e w' => e = .returned (.bool true) ∧ Below w.heap.size w w' := by
  obtain ⟨a0, c0, rfl⟩ := hv.val
  have HV : Hid _ := hv
  have HU : Hid _ := hu
  have HWF : Hid _ := hwf
  clear hv hu hwf
  obtain ⟨a1, c1, rfl⟩ := HU.out.val
  by_cases hb : bnd p = 0
  · obtain ⟨hp0, hp1⟩ := bnd_zero hb
    obtain ⟨m, hm⟩ : ∃ m, p.length = m + 1 := ⟨p.length - 1, by omega⟩
    obtain ⟨b, off, cap, hveq, hcl⟩ := HU.out.some' (by omega)
    simp only [Value.slice.injEq] at hveq
    obtain ⟨rfl, -, rfl⟩ := hveq
    have HBN : Hid _ := hb
    have HCL : Hid (∀ i, i < p.length → w.cell? ⟨b, off + i, none⟩ = some (.int .i64 (p.getD i 0))) := hcl
    obtain ⟨l, hll⟩ : ∃ l, cut p = l := ⟨_, rfl⟩
    have HLL : Hid _ := hll
    have hlp : 0 < l.length := by rw [← hll]; exact cut_pos (by omega)
    have hl1 : l.length ≤ 100 := by rw [← hll]; exact Nat.le_trans (cut_length p) (by omega)
    obtain ⟨k, hk⟩ : ∃ k, l.length = k + 1 := ⟨l.length - 1, by omega⟩
    have HFI : Hid (l.getD 0 0 = p.getD 0 0) := by rw [← hll]; exact cut_first
    have HLA : Hid (l.getD k 0 = p.getD m 0) := by
      have := cut_last p
      rw [hll, hk, hm] at this
      unfold Hid
      simpa using this
    have HND : Hid l.Nodup := by rw [← hll]; exact cut_nodup p
    have HCC : Hid (cut l = l) := by rw [← hll]; exact cut_cut p
    have HBL : Hid (bnd l = 0) := by unfold Hid bnd; rw [if_neg (by omega), if_neg (by omega)]
    have HWL : Hid (∀ i, i < l.length → (Lit.int .i64 (l.getD i 0)).wf = true) := fun i hi => by
      have hmem : l.getD i 0 ∈ l := by simp [List.getD_eq_getElem?_getD, hi]
      rw [← hll] at hmem
      obtain ⟨j, hj, he⟩ := List.mem_iff_getElem.1 (cut_sub p _ hmem)
      have := HWF.out j hj
      rw [List.getD_eq_getElem?_getD, List.getElem?_eq_getElem hj] at this
      simp at this
      rw [he, hll] at this
      exact this
    have HCO : Hid _ := @wcode_cut n es p
    rw [hll] at HCO
    have HC1 : Hid (∀ w v va, SlE w v es → SlI w va p → _) := fun w v va hv hu => cost_any n v va es p w hv hu hlen (by omega)
    have HC2 : Hid (∀ w v va, SlE w v es → SlI w va l → _) := fun w v va hv hu => cost_any n v va es l w hv hu hlen (by omega)
    have HPS : Hid (∀ w v, SlE w v es → _) := fun w v hv => npos_any n v es w hv hlen
    generalize (wcode n es p).1 = x1 at *
    generalize (wcode n es p).2 = f1 at *
    generalize (wcode n es l).1 = x2 at *
    generalize (wcode n es l).2 = f2 at *
    generalize nps n es = q at *
    have HM : Hid _ := hm
    have HK : Hid _ := hk
    rw [hm] at HU ⊢
    clear hb hll hm hcl
    go_enter Try.func3, Try.ntmps3
    go_wp2_with fail
    have P0 : Hid _ := box2_new w n (.slice a0 es.length c0) 24
    have B0 : Hid (Below w.heap.size w (w.alloc (.cells #[.int .i64 n, .slice a0 es.length c0] 24))) := balloc (Below.refl _ _) _
    have hz0 : (w.alloc (.cells #[.int .i64 n, .slice a0 es.length c0] 24)).heap.size = w.heap.size + 1 := by simp
    generalize w.alloc (.cells #[.int .i64 n, .slice a0 es.length c0] 24) = W0 at *
    have L1 : Hid _ := lit_nums W0 [1, 2, 3, 2, 4] #[.int .i64 1, .int .i64 2, .int .i64 3, .int .i64 2, .int .i64 4] 5 rfl rfl
    rw [hz0] at L1
    have b1 : Below W0.heap.size W0 (W0.alloc (.cells #[.int .i64 1, .int .i64 2, .int .i64 3, .int .i64 2, .int .i64 4] 3)) := balloc (Below.refl _ _) _
    generalize W0.alloc (.cells #[.int .i64 1, .int .i64 2, .int .i64 3, .int .i64 2, .int .i64 4] 3) = W1 at *
    refine (five_any _ W1 L1.out).mono ?_
    rintro e w2 ⟨u2, rfl, i2, b2⟩
    obtain ⟨au2, cu2, rfl⟩ := i2.sl.val
    have I2 : Hid _ := i2.sl
    have P2 : Hid _ := (P0.out.below b1).below b2
    have B2 : Hid (Below w.heap.size w w2) := bthen (bthen B0.out b1) b2
    clear i2 b1 b2 hz0 P0 B0 L1
    go_wp2_with fail
    have L3 : Hid _ := lit_nums w2 [1, 2, 4] #[.int .i64 1, .int .i64 2, .int .i64 4] 3 rfl rfl
    have b3 : Below w2.heap.size w2 (w2.alloc (.cells #[.int .i64 1, .int .i64 2, .int .i64 4] 3)) := balloc (Below.refl _ _) _
    generalize w2.alloc (.cells #[.int .i64 1, .int .i64 2, .int .i64 4] 3) = W3 at *
    refine (iequal_yes _ _ [1, 2, 4] W3 (I2.out.below b3) L3.out (by simp)).mono ?_
    rintro e w4 ⟨rfl, b4⟩
    have P4 : Hid _ := (P2.out.below b3).below b4
    have B4 : Hid (Below w.heap.size w w4) := bthen (bthen B2.out b3) b4
    clear b3 b4 P2 B2 I2 L3
    go_wp2_with fail
    refine (cut_yes p _ w4 (HU.out.below B4.out) HBN.out HWF.out).mono ?_
    rintro e w5 ⟨u5, rfl, i5, b5⟩
    rw [HLL.out] at i5
    obtain ⟨gl, ol, cl, rfl, hcl5, hcap5⟩ := i5.sl.some2 hlp
    rw [HK.out]
    have I5 : Hid (SlI w5 (.slice (some ⟨gl, ol, none⟩) (k + 1) cl) l) := by have := i5.sl; rw [HK.out] at this; exact this
    have HC5 : Hid (∀ i, i < l.length → w5.cell? ⟨gl, ol + i, none⟩ = some (.int .i64 (l.getD i 0))) := hcl5
    have P5 : Hid _ := P4.out.below b5
    have B5 : Hid (Below w.heap.size w w5) := bthen B4.out b5
    have hcapi : (k : Int) + 1 ≤ (cl : Int) := by omega
    have d0 := hcl5 0 hlp
    have d1 := hcl5 k (by omega)
    have d2 := kept B5.out (HCL.out 0 (by have := HM.out; omega))
    have d3 := kept B5.out (HCL.out m (by have := HM.out; omega))
    rw [HFI.out] at d0
    rw [HLA.out] at d1
    rw [Nat.add_zero] at d0 d2
    generalize p.getD 0 0 = y0 at *
    generalize p.getD m 0 = y1 at *
    have hk0 : ((k : Int) + 1 == 0) = false := beq_eq_false_iff_ne.2 (by omega)
    have hk1 : (0 : Int) < (k : Int) + 1 := by omega
    have hk2 : (k : Int) < (k : Int) + 1 := by omega
    have hm1 : (0 : Int) < (m : Int) + 1 := by omega
    have hm2 : (m : Int) < (m : Int) + 1 := by omega
    have hmb : m ≤ 100 := by have := HM.out; omega
    have hkb : k ≤ 100 := by omega
    clear i5 hcl5 b5 P4 B4 hk
    go_wp2_with fail
    go_quiet (fail)
    have P6 : Hid _ := P5.out.below (bdrewN (Below.refl _ _) nq)
    have B6 : Hid (Below w.heap.size w (w5.drewN nq)) := bdrewN B5.out _
    have I6 : Hid _ := I5.out.below (bdrewN (Below.refl _ _) nq)
    have HC6 : Hid (∀ i, i < l.length → (w5.drewN nq).cell? ⟨gl, ol + i, none⟩ = some (.int .i64 (l.getD i 0))) := fun i hi => kept (bdrewN (Below.refl _ _) nq) (HC5.out i hi)
    generalize w5.drewN nq = w6 at *
    clear d0 d1 d2 d3 P5 B5 I5 HC5
    go_wp2_with fail
    go_loopw [67] (fun z wr => ∃ i : Nat, z = .int .i64 i ∧ i ≤ k + 1 ∧ wr = w6) (fun z _ => k + 1 - (intOf z).toNat)
    case atStart => exact ⟨0, rfl, Nat.zero_le _, rfl⟩
    case round =>
      obtain ⟨i, rfl, hi, rfl⟩ := hrel
      by_cases hlt : i < k + 1
      · have hii : (i : Int) < (k : Int) + 1 := by omega
        have hic : (i : Int) ≤ (cl : Int) := by omega
        have d0 := HC6.out i (by have := HK.out; omega)
        have HNO : Hid (∀ j, j < (l.take i).length → (l.take i).getD j 0 ≠ l.getD i 0) := fun j hj => by
          simp at hj
          have h9 := nodup_at HND.out (i := j) (k := i) (by omega) (by have := HK.out; omega)
          have e9 : (l.take i).getD j 0 = l.getD j 0 := by simp [List.getD_eq_getElem?_getD, show j < i by omega]
          rw [e9]; exact h9
        have HST : Hid _ := SlI.take (k := i) HC6.out (by have := HK.out; omega) (show l.length ≤ cl by have := HK.out; omega)
        generalize l.getD i 0 = y at *
        have htl : (l.take i).length ≤ 100 := by simp; omega
        go_wp2_with fail
        refine (contains_no (l.take i) y _ wr HST.out htl HNO.out).mono ?_
        rintro e w7 ⟨rfl, rfl⟩
        go_wp2_with fail
        go_roundw
        case rel => exact ⟨i + 1, by go_num, by omega, trivial⟩
        case measure => simp [intOf]; omega
      · have hke : i = k + 1 := by omega
        subst hke
        go_wp2_with fail
        refine (cut_yes l _ wr I6.out HBL.out HWL.out).mono ?_
        rintro e w8 ⟨u8, rfl, i8, b8⟩
        rw [HCC.out] at i8
        obtain ⟨au8, cu8, rfl⟩ := i8.sl.val
        have J8 : Hid _ := i8.sl
        have I8 : Hid _ := I6.out.below b8
        have P8 : Hid _ := P6.out.below b8
        have B8 : Hid (Below w.heap.size w w8) := bthen B6.out b8
        clear i8 b8
        go_wp2_with fail
        refine (iequal_yes _ _ l w8 (by have := I8.out; exact this) J8.out (by omega)).mono ?_
        rintro e w9 ⟨rfl, b9⟩
        have I9 : Hid _ := I8.out.below b9
        have P9 : Hid _ := P8.out.below b9
        have B9 : Hid (Below w.heap.size w w9) := bthen B8.out b9
        obtain ⟨p0, p1⟩ := P9.out
        clear b9 I8 P8 B8 J8
        go_wp2_with fail
        clear p0 p1
        refine (HC1.out w9 _ _ (HV.out.below B9.out) (HU.out.below B9.out)).mono ?_
        rintro e w10 ⟨rfl, b10⟩
        have I10 : Hid _ := I9.out.below b10
        have P10 : Hid _ := P9.out.below b10
        have B10 : Hid (Below w.heap.size w w10) := bthen B9.out b10
        clear b10 I9 P9 B9
        by_cases hf : f1 = 0
        · obtain ⟨e1, e2⟩ := HCO.out hf
          subst hf e1
          have HE2 : Hid _ := e2
          obtain ⟨p0, p1⟩ := P10.out
          clear e2
          go_wp2_with fail
          clear p0 p1
          refine (HC2.out w10 _ _ (HV.out.below B10.out) I10.out).mono ?_
          rintro e w11 ⟨rfl, b11⟩
          have B11 : Hid (Below w.heap.size w w11) := bthen B10.out b11
          obtain ⟨p0, p1⟩ := P10.out.below b11
          clear b11
          by_cases hle : x2 ≤ x1
          · go_wp2_with fail
            go_ret
            exact ⟨rfl, B11.out⟩
          · have hq : (q != 0) = true := by
              rcases HE2.out with h | h
              · exact absurd h hle
              · simp [h]
            go_wp2_with fail
            refine (HPS.out w11 _ (HV.out.below B11.out)).mono ?_
            rintro e w12 ⟨rfl, b12⟩
            go_wp2_with fail
            go_ret
            exact ⟨rfl, bthen B11.out b12⟩
        · have hfz : (f1 != 0) = true := by simp [hf]
          clear hf
          go_wp2_with fail
          go_ret
          exact ⟨rfl, B10.out⟩
  · have hz : (bnd p != 0) = true := by simp [hb]
    have HBN : Hid _ := hb
    clear hb
    go_enter Try.func3, Try.ntmps3
    go_wp2_with fail
    have B0 : Hid (Below w.heap.size w (w.alloc (.cells #[.int .i64 n, .slice a0 es.length c0] 24))) := balloc (Below.refl _ _) _
    have hz0 : (w.alloc (.cells #[.int .i64 n, .slice a0 es.length c0] 24)).heap.size = w.heap.size + 1 := by simp
    generalize w.alloc (.cells #[.int .i64 n, .slice a0 es.length c0] 24) = W0 at *
    have L1 : Hid _ := lit_nums W0 [1, 2, 3, 2, 4] #[.int .i64 1, .int .i64 2, .int .i64 3, .int .i64 2, .int .i64 4] 5 rfl rfl
    rw [hz0] at L1
    have b1 : Below W0.heap.size W0 (W0.alloc (.cells #[.int .i64 1, .int .i64 2, .int .i64 3, .int .i64 2, .int .i64 4] 3)) := balloc (Below.refl _ _) _
    generalize W0.alloc (.cells #[.int .i64 1, .int .i64 2, .int .i64 3, .int .i64 2, .int .i64 4] 3) = W1 at *
    refine (five_any _ W1 L1.out).mono ?_
    rintro e w2 ⟨u2, rfl, i2, b2⟩
    obtain ⟨au2, cu2, rfl⟩ := i2.sl.val
    have I2 : Hid _ := i2.sl
    have B2 : Hid (Below w.heap.size w w2) := bthen (bthen B0.out b1) b2
    clear i2 b1 b2 hz0 B0 L1
    go_wp2_with fail
    have L3 : Hid _ := lit_nums w2 [1, 2, 4] #[.int .i64 1, .int .i64 2, .int .i64 4] 3 rfl rfl
    have b3 : Below w2.heap.size w2 (w2.alloc (.cells #[.int .i64 1, .int .i64 2, .int .i64 4] 3)) := balloc (Below.refl _ _) _
    generalize w2.alloc (.cells #[.int .i64 1, .int .i64 2, .int .i64 4] 3) = W3 at *
    refine (iequal_yes _ _ [1, 2, 4] W3 (I2.out.below b3) L3.out (by simp)).mono ?_
    rintro e w4 ⟨rfl, b4⟩
    have B4 : Hid (Below w.heap.size w w4) := bthen (bthen B2.out b3) b4
    clear b3 b4 B2 I2 L3
    go_wp2_with fail
    refine (cut_bad p _ w4 (HU.out.below B4.out) (by omega) HBN.out).mono ?_
    rintro e w5 ⟨rfl, rfl⟩
    go_wp2_with fail
    go_ret
    exact ⟨rfl, B4.out⟩
end Go.Proofs.Ytfgdcglgloahfab.WLess
