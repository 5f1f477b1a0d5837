/-
  The law fellkeep.SpanNeck, walked.
-/
import Derived.Test.YtdgihpegdcoilaaSJoins
import Derived.Test.YtdgihpegdcoilaaKZ
import Derived.Test.YtdgihpegdcoilaaKE
namespace Go.Proofs.Ytdgihpegdcoilaa.SNeck
open Go.RowKit
open Nm Kk SJoins
attribute [local go_sem ↓] Go.wp_at_zero Go.wp_at_succ

theorem two_neck : nk [(0, 1, 5)] 1 0 = (5, 0) := by decide
theorem concat_two (B ga oa ca gb ob cb : Nat) (ls rs : List Int) (w : World) (hl : ls.length ≤ 600) (hr : rs.length ≤ 600)
    (ha : ∀ i, i < ls.length → w.cell? ⟨ga, oa + i, none⟩ = some (.int .i64 (ls.getD i 0))) (hb : ∀ i, i < rs.length → w.cell? ⟨gb, ob + i, none⟩ = some (.int .i64 (rs.getD i 0)))
    (b0 : w.cell? ⟨B, 0, none⟩ = some (.slice (some ⟨ga, oa, none⟩) ls.length ca)) (b1 : w.cell? ⟨B, 1, none⟩ = some (.slice (some ⟨gb, ob, none⟩) rs.length cb)) :
    Calls Try.prog 30 #[.slice (some ⟨B, 0, none⟩) 2 2] w fun e w' => ∃ out, e = .returned out ∧ Is w' w.heap.size out (ls ++ rs) ∧ Below w.heap.size w w' := by
  rcases Nat.eq_zero_or_pos (ls.length + rs.length) with h | h
  · have e1 := List.length_eq_zero_iff.1 (show ls.length = 0 by omega)
    have e2 := List.length_eq_zero_iff.1 (show rs.length = 0 by omega)
    subst e1 e2
    refine (concat_none B ga oa ca gb ob cb w b0 b1).mono ?_
    rintro e w' ⟨rfl, hb⟩
    exact ⟨_, rfl, Is.nil _ _, hb⟩
  · exact concat_any B ga oa ca gb ob cb ls rs w (by omega) (by omega) h ha hb b0 b1
theorem wo_lt {es : List E} {T : List Nat} (h : ∀ x, x ∈ T → x < es.length) (k : Nat) : ∀ x, x ∈ wo T k → x < es.length := by
  intro x hx
  unfold wo at hx
  rcases List.mem_append.1 hx with hx | hx
  · exact h x (List.mem_of_mem_take hx)
  · exact h x (List.mem_of_mem_drop hx)
theorem wo_length (T : List Nat) (k : Nat) : (wo T k).length ≤ T.length := by
  unfold wo; rw [List.length_append, List.length_take, List.length_drop]; omega
theorem ints_wo (T : List Nat) (k : Nat) : ints (T.take k) ++ ints (T.drop (k + 1)) = ints (wo T k) := by unfold wo ints; rw [List.map_append]
theorem drop_getD (T : List Nat) (k i : Nat) (h : k + i < T.length) : (ints (T.drop k)).getD i 0 = (ints T).getD (k + i) 0 := by
  rw [ints_at T (k + i) h, ints_at (T.drop k) i (by rw [List.length_drop]; omega)]
  simp [List.getD_eq_getElem?_getD, List.getElem?_drop]
theorem take_getI (T : List Nat) (k i : Nat) (h : i < k) (hk : k ≤ T.length) : (ints (T.take k)).getD i 0 = (ints T).getD i 0 := by
  rw [ints_at T i (by omega), ints_at (T.take k) i (by rw [List.length_take]; omega)]
  simp [List.getD_eq_getElem?_getD, List.getElem?_take_of_lt h]

set_option maxRecDepth 100000 in
set_option maxHeartbeats 8000000 in
theorem walk_no (n a b k1 : Int) (v : Value) (es : List E) (w : World) (hv : SlE w v es) (hk0 : k1 ≠ 0)
    (hN : ∀ W, SlE W v es → Calls Try.prog 20 #[.agg #[.int .i64 n, v], .int .i64 a, .int .i64 b] W fun e w' => e = .returned (.tuple #[.int .i64 0, .int .i64 k1]) ∧ Below W.heap.size W w')
    (hT : ∀ W, SlE W v es → Calls Try.prog 17 #[.agg #[.int .i64 n, v]] W fun e w' => ∃ u f, e = .returned (.tuple #[u, .int .i64 f]) ∧ Below W.heap.size W w') :
    Calls Try.prog 10 #[.agg #[.int .i64 n, v], .int .i64 a, .int .i64 b] w fun e w' => e = .returned (.bool true) ∧ Below w.heap.size w w' := by
  obtain ⟨a0, c0, rfl⟩ := hv.val
  have HV : Hid _ := hv
  have HN : Hid _ := hN
  have HT : Hid _ := hT
  have z4 : (k1 != 0) = true := by simp [hk0]
  have z5 : (k1 == 0) = false := by simp [hk0]
  clear hv hN hT hk0
  go_enter Try.func10, Try.ntmps10
  go_wp2_with fail
  have P0 : Hid _ := box2_new w n (.slice a0 es.length c0) 35
  have B0 : Hid (Below w.heap.size w (w.alloc (.cells #[.int .i64 n, .slice a0 es.length c0] 35))) := balloc (Below.refl _ _) _
  generalize w.alloc (.cells #[.int .i64 n, .slice a0 es.length c0] 35) = W0 at *
  refine (two_any W0).mono ?_
  rintro e w1 ⟨X, rfl, s1, b1⟩
  have S1 : Hid _ := s1
  have B1 : Hid (Below w.heap.size w w1) := bthen B0.out b1
  have P1 : Hid _ := P0.out.below b1
  clear s1 b1 P0 B0
  go_wp2_with fail
  refine (neck_yes 2 1 0 _ [(0, 1, 5)] w1 S1.out two_gn (by omega) (by omega) (by omega)).mono ?_
  rintro e w2 ⟨rfl, b2⟩
  rw [two_neck]
  have B2 : Hid (Below w.heap.size w w2) := bthen B1.out b2
  have P2 : Hid _ := P1.out.below b2
  clear b2 S1 P1 B1
  obtain ⟨p0, p1⟩ := P2.out
  go_wp2_with fail
  clear p0 p1
  refine (HN.out w2 (HV.out.below B2.out)).mono ?_
  rintro e w3 ⟨rfl, b3⟩
  have B3 : Hid (Below w.heap.size w w3) := bthen B2.out b3
  have P3 : Hid _ := P2.out.below b3
  obtain ⟨p0, p1⟩ := P3.out
  clear b3 P2 B2
  go_wp2_with fail
  refine (HT.out w3 (HV.out.below B3.out)).mono ?_
  rintro e w4 ⟨u4, f4, rfl, b4⟩
  have B4 : Hid (Below w.heap.size w w4) := bthen B3.out b4
  clear b4
  go_wp2_with fail
  go_ret
  exact ⟨rfl, B4.out⟩
set_option maxRecDepth 100000 in
set_option maxHeartbeats 8000000 in
theorem walk_yes (n a b : Nat) (v : Value) (es : List E) (w : World) (hv : SlE w v es) (hg : Gn n es) (ha : a < n) (hb : b < n) (hab : a ≠ b) (h5 : (nk es a b).2 = 0) :
    Calls Try.prog 10 #[.agg #[.int .i64 n, v], .int .i64 a, .int .i64 b] w fun e w' => e = .returned (.bool true) ∧ Below w.heap.size w w' := by
  obtain ⟨a0, c0, rfl⟩ := hv.val
  have HV : Hid _ := hv
  have HG : Hid _ := hg
  have hl := hg.len
  have hn64 := hg.n64
  have HTl := tree_length_le es
  have HTm : Hid _ := tree_lt es
  have HSN : Hid _ := sn_nk hg hab h5
  have HAB : Hid _ := hab
  have H5 : Hid _ := h5
  clear hv hg h5
  go_enter Try.func10, Try.ntmps10
  go_wp2_with fail
  have P0 : Hid _ := box2_new w (n : Int) (.slice a0 es.length c0) 35
  have B0 : Hid (Below w.heap.size w (w.alloc (.cells #[.int .i64 (n : Int), .slice a0 es.length c0] 35))) := balloc (Below.refl _ _) _
  generalize w.alloc (.cells #[.int .i64 (n : Int), .slice a0 es.length c0] 35) = W0 at *
  refine (two_any W0).mono ?_
  rintro e w1 ⟨X, rfl, s1, b1⟩
  have S1 : Hid _ := s1
  have B1 : Hid (Below w.heap.size w w1) := bthen B0.out b1
  have P1 : Hid _ := P0.out.below b1
  clear s1 b1 P0 B0
  go_wp2_with fail
  refine (neck_yes 2 1 0 _ [(0, 1, 5)] w1 S1.out two_gn (by omega) (by omega) (by omega)).mono ?_
  rintro e w2 ⟨rfl, b2⟩
  rw [two_neck]
  have B2 : Hid (Below w.heap.size w w2) := bthen B1.out b2
  have P2 : Hid _ := P1.out.below b2
  clear b2 S1 P1 B1
  obtain ⟨p0, p1⟩ := P2.out
  go_wp2_with fail
  clear p0 p1
  refine (neck_yes n a b _ es w2 (HV.out.below B2.out) HG.out ha hb HAB.out).mono ?_
  rintro e w3 ⟨rfl, b3⟩
  rw [H5.out]
  have B3 : Hid (Below w.heap.size w w3) := bthen B2.out b3
  have P3 : Hid _ := P2.out.below b3
  obtain ⟨p0, p1⟩ := P3.out
  clear b3 P2 B2
  go_wp2_with fail
  clear p0 p1
  refine (tree_yes n _ es w3 (HV.out.below B3.out) HG.out).mono ?_
  rintro e w4 ⟨u4, rfl, s4, b4⟩
  have B4 : Hid (Below w.heap.size w w4) := bthen B3.out b4
  have P4 : Hid _ := P3.out.below b4
  obtain ⟨a4, c4, rfl⟩ := s4.sl.val
  rw [ints_length] at s4 ⊢
  have S4 : Hid (SlI w4 (.slice a4 (tree es).length c4) (ints (tree es))) := s4.sl
  clear s4 b4 P3 B3
  generalize tree es = T at *
  generalize nk es a b = r at *
  obtain ⟨r1, r2⟩ := r
  simp only at H5 HSN
  go_wp2_with fail
  go_loopw [52, 13, 14] (fun z ne so wr => ∃ k : Nat, z = .int .i64 k ∧ k ≤ T.length ∧ ne = .int .i64 (sn es a b T k).1 ∧ so = .bool (sn es a b T k).2 ∧ Below w4.heap.size w4 wr) (fun z _ _ _ => T.length - (intOf z).toNat)
  case atStart => exact ⟨0, rfl, Nat.zero_le _, rfl, rfl, Below.refl _ _⟩
  case round =>
    obtain ⟨k, rfl, hk, rfl, rfl, hb9⟩ := hrel
    have HB : Hid (Below w4.heap.size w4 wr) := hb9
    clear hb9
    by_cases hlt : k < T.length
    · have hki : (k : Int) < (T.length : Int) := by omega
      obtain ⟨b1, off1, cap1, hveq, hc⟩ := (S4.out.below HB.out).some2 (by rw [ints_length]; omega)
      rw [ints_length] at hveq hc
      simp only [Value.slice.injEq] at hveq
      obtain ⟨rfl, -, rfl⟩ := hveq
      have l0 := hc.1 k hlt
      rw [ints_at T k hlt] at l0
      have HCL : Hid _ := hc.1
      have hTc := hc.2
      clear hc
      have hm := HTm.out _ (getD_mem T k hlt)
      have HSK : Hid (sn es a b T (k + 1) = if Un.Uf.grp (pl es (wo T k)) a ≠ Un.Uf.grp (pl es (wo T k)) b ∧ ((sn es a b T k).2 = false ∨ (sn es a b T k).1 < cs es (T.getD k 0)) then (cs es (T.getD k 0), true) else sn es a b T k) := rfl
      obtain ⟨i, hi⟩ : ∃ i, T.getD k 0 = i := ⟨_, rfl⟩
      rw [hi] at l0 hm HSK
      clear hi
      have hmi : (i : Int) < (es.length : Int) := by omega
      have PW : Hid _ := P4.out.below HB.out
      have VV : Hid _ := (HV.out.below B4.out).below HB.out
      have HCW : Hid (Un.chk n (pl es (wo T k)) = 0) := chk_pl HG.out (wo_lt HTm.out k) (by have := wo_length T k; omega)
      go_upto_region 12 with fail
      clear l0
      obtain ⟨k1, hk1⟩ : ∃ k1, k + 1 = k1 := ⟨_, rfl⟩
      have HK1 : Hid (k + 1 = k1) := hk1
      have hk1l : k1 ≤ T.length := by omega
      have hk1i : (k1 : Int) ≤ (T.length : Int) := by omega
      have hkc : (k : Int) ≤ (c4 : Int) := by omega
      have hk1c : (k1 : Int) ≤ (c4 : Int) := by omega
      have hw0 : IntKind.i64.wrap (k : Int) = (k : Int) := by rw [IntKind.wrap_i64]; omega
      have hw1 : IntKind.i64.wrap ((k : Int) + 1) = (k1 : Int) := by rw [IntKind.wrap_i64]; omega
      have hw2 : IntKind.i64.wrap (k1 : Int) = (k1 : Int) := by rw [IntKind.wrap_i64]; omega
      have hk10 : ¬ k1 = 0 := by omega
      have HL1 : Hid (∀ i, i < (ints (T.take k)).length → wr.cell? ⟨b1, off1 + i, none⟩ = some (.int .i64 ((ints (T.take k)).getD i 0))) := fun i hi => by
        rw [ints_length, List.length_take] at hi
        rw [take_getI T k i (by omega) (by omega)]
        exact HCL.out i (by omega)
      have HL2 : Hid (∀ i, i < (ints (T.drop k1)).length → wr.cell? ⟨b1, off1 + k1 + i, none⟩ = some (.int .i64 ((ints (T.drop k1)).getD i 0))) := fun i hi => by
        rw [ints_length, List.length_drop] at hi
        rw [drop_getD T k1 i (by omega), Nat.add_assoc]
        exact HCL.out (k1 + i) (by omega)
      have HLL : Hid ((ints (T.take k)).length = k) := by unfold Hid; rw [ints_length, List.length_take]; omega
      have HLR : Hid ((ints (T.drop k1)).length = T.length - k1) := by unfold Hid; rw [ints_length, List.length_drop]
      clear hk1
      have p0 := PW.out.g0
      have p1 := PW.out.g1
      go_cut [17, 18] (fun uv fv wd => ∃ g, uv = .slice (some ⟨g, 0, none⟩) n n ∧ fv = .int .i64 0 ∧ Un.Ur wd g n (Un.Uf.grp (pl es (wo T k))) ∧ Below wr.heap.size wr wd)
      case first =>
        by_cases hk0 : k = 0
        · subst hk0
          obtain rfl : k1 = 1 := by have := HK1.out; omega
          have g1 : (1 : Int) ≤ (T.length : Int) := by omega
          have g2 : (1 : Int) ≤ (c4 : Int) := by omega
          have g3 : 1 ≤ T.length := by omega
          have g4 : 1 ≤ c4 := by omega
          have g5 : (T.length : Int) ≤ (c4 : Int) := by omega
          have g6 : IntKind.i64.wrap (0 + 1) = 1 := by rw [IntKind.wrap_i64]; omega
          have g7 : IntKind.i64.wrap 1 = 1 := by rw [IntKind.wrap_i64]; omega
          clear hw0 hw1 hw2 hkc hk1c hk1i hki hk10 hk1l
          by_cases hq : c4 = 1
          · subst hq
            have HLR0 : Hid ((ints (T.drop 1)).length = 0) := by unfold Hid; rw [ints_length, List.length_drop]; omega
            go_region_held3 (fun w' => w'.cell? ⟨w.heap.size, 0, none⟩ = some (.int .i64 n) ∧ w'.cell? ⟨w.heap.size, 1, none⟩ = some (.slice a0 es.length c0)) (first | exact KEEP.out | go_keep)
              (first
               | (go_at_call 30; refine (concat_two wr.heap.size b1 off1 1 b1 (off1) 0 (ints (T.take 0)) (ints (T.drop 1)) _ (by rw [ints_length, List.length_take]; omega) (by rw [ints_length, List.length_drop]; omega) (by intro i hi; exact kept_alloc (HL1.out i hi)) (by intro i hi; exact absurd hi (by rw [ints_length, List.length_drop]; omega)) (by rw [HLL.out]; exact cell_new wr _ _ 0 _ rfl) (by rw [HLR0.out]; exact cell_new wr _ _ 1 _ rfl)).mono ?_; rintro e w5 ⟨u5, rfl, s5, b5⟩; have B5 : Hid (Below wr.heap.size wr w5) := (by first | exact bthen (balloc (Below.refl wr.heap.size wr) _) b5 | exact bthen (Below.drew (balloc (Below.refl wr.heap.size wr) _)) b5 | exact bthen (Below.drew (Below.drew (balloc (Below.refl wr.heap.size wr) _))) b5 | exact bthen (Below.drew (Below.drew (Below.drew (balloc (Below.refl wr.heap.size wr) _)))) b5 | exact bthen (Below.drew (Below.drew (Below.drew (Below.drew (balloc (Below.refl wr.heap.size wr) _))))) b5); have KEEP : Hid (w5.cell? ⟨w.heap.size, 0, none⟩ = some (.int .i64 n) ∧ w5.cell? ⟨w.heap.size, 1, none⟩ = some (.slice a0 es.length c0)) := (by exact ⟨kept B5.out p0, kept B5.out p1⟩))
               | (go_at_call 25; refine (pairs_any n _ _ es (wo T 0) _ (by first | exact VV.out.below B5.out | exact VV.out.below (Below.drew B5.out) | exact VV.out.below (Below.drew (Below.drew B5.out))) (by rw [← ints_wo]; first | exact s5.sl | exact s5.sl.below (Below.drew (Below.refl _ _)) | exact s5.sl.below (Below.drew (Below.drew (Below.refl _ _)))) (wo_lt HTm.out 0) (by have := wo_length T 0; omega)).mono ?_; rintro e w6 ⟨u6, rfl, q6, b6⟩; have B6 : Hid (Below wr.heap.size wr w6) := (by first | exact bthen (B5.out) b6 | exact bthen (Below.drew (B5.out)) b6 | exact bthen (Below.drew (Below.drew (B5.out))) b6 | exact bthen (Below.drew (Below.drew (Below.drew (B5.out)))) b6 | exact bthen (Below.drew (Below.drew (Below.drew (Below.drew (B5.out))))) b6); have KEEP : Hid (w6.cell? ⟨w.heap.size, 0, none⟩ = some (.int .i64 n) ∧ w6.cell? ⟨w.heap.size, 1, none⟩ = some (.slice a0 es.length c0)) := (by exact ⟨kept B6.out p0, kept B6.out p1⟩))
               | (go_at_call 12; refine (Un.of_yes n _ (pl es (wo T 0)) _ (by first | exact q6.sl | exact q6.sl.below (Below.drew (Below.refl _ _)) | exact q6.sl.below (Below.drew (Below.drew (Below.refl _ _))) | exact q6.sl.below (Below.drew (Below.drew (Below.drew (Below.refl _ _)))) | exact q6.sl.below (Below.drew (Below.drew (Below.drew (Below.drew (Below.refl _ _)))))) HCW.out).mono ?_; rintro e w7 ⟨ga, rfl, hga, ua, b7⟩; have B7 : Hid (Below wr.heap.size wr w7) := (by first | exact bthen (B6.out) b7 | exact bthen (Below.drew (B6.out)) b7 | exact bthen (Below.drew (Below.drew (B6.out))) b7 | exact bthen (Below.drew (Below.drew (Below.drew (B6.out)))) b7 | exact bthen (Below.drew (Below.drew (Below.drew (Below.drew (B6.out))))) b7); have KEEP : Hid (w7.cell? ⟨w.heap.size, 0, none⟩ = some (.int .i64 n) ∧ w7.cell? ⟨w.heap.size, 1, none⟩ = some (.slice a0 es.length c0)) := (by exact ⟨kept B7.out p0, kept B7.out p1⟩))
               | fail)
            all_goals
              go_wp2_with fail
              go_meet
              exact ⟨ga, rfl, rfl, ua, B7.out⟩
          · have hq2 : (1 : Int) < (c4 : Int) := by omega
            go_region_held3 (fun w' => w'.cell? ⟨w.heap.size, 0, none⟩ = some (.int .i64 n) ∧ w'.cell? ⟨w.heap.size, 1, none⟩ = some (.slice a0 es.length c0)) (first | exact KEEP.out | go_keep)
              (first
               | (go_at_call 30; refine (concat_two wr.heap.size b1 off1 c4 b1 (off1 + 1) (c4 - 1) (ints (T.take 0)) (ints (T.drop 1)) _ (by rw [ints_length, List.length_take]; omega) (by rw [ints_length, List.length_drop]; omega) (by intro i hi; exact kept_alloc (HL1.out i hi)) (by intro i hi; exact kept_alloc (HL2.out i hi)) (by rw [HLL.out]; exact cell_new wr _ _ 0 _ rfl) (by rw [HLR.out]; exact cell_new wr _ _ 1 _ rfl)).mono ?_; rintro e w5 ⟨u5, rfl, s5, b5⟩; have B5 : Hid (Below wr.heap.size wr w5) := (by first | exact bthen (balloc (Below.refl wr.heap.size wr) _) b5 | exact bthen (Below.drew (balloc (Below.refl wr.heap.size wr) _)) b5 | exact bthen (Below.drew (Below.drew (balloc (Below.refl wr.heap.size wr) _))) b5 | exact bthen (Below.drew (Below.drew (Below.drew (balloc (Below.refl wr.heap.size wr) _)))) b5 | exact bthen (Below.drew (Below.drew (Below.drew (Below.drew (balloc (Below.refl wr.heap.size wr) _))))) b5); have KEEP : Hid (w5.cell? ⟨w.heap.size, 0, none⟩ = some (.int .i64 n) ∧ w5.cell? ⟨w.heap.size, 1, none⟩ = some (.slice a0 es.length c0)) := (by exact ⟨kept B5.out p0, kept B5.out p1⟩))
               | (go_at_call 25; refine (pairs_any n _ _ es (wo T 0) _ (by first | exact VV.out.below B5.out | exact VV.out.below (Below.drew B5.out) | exact VV.out.below (Below.drew (Below.drew B5.out))) (by rw [← ints_wo]; first | exact s5.sl | exact s5.sl.below (Below.drew (Below.refl _ _)) | exact s5.sl.below (Below.drew (Below.drew (Below.refl _ _)))) (wo_lt HTm.out 0) (by have := wo_length T 0; omega)).mono ?_; rintro e w6 ⟨u6, rfl, q6, b6⟩; have B6 : Hid (Below wr.heap.size wr w6) := (by first | exact bthen (B5.out) b6 | exact bthen (Below.drew (B5.out)) b6 | exact bthen (Below.drew (Below.drew (B5.out))) b6 | exact bthen (Below.drew (Below.drew (Below.drew (B5.out)))) b6 | exact bthen (Below.drew (Below.drew (Below.drew (Below.drew (B5.out))))) b6); have KEEP : Hid (w6.cell? ⟨w.heap.size, 0, none⟩ = some (.int .i64 n) ∧ w6.cell? ⟨w.heap.size, 1, none⟩ = some (.slice a0 es.length c0)) := (by exact ⟨kept B6.out p0, kept B6.out p1⟩))
               | (go_at_call 12; refine (Un.of_yes n _ (pl es (wo T 0)) _ (by first | exact q6.sl | exact q6.sl.below (Below.drew (Below.refl _ _)) | exact q6.sl.below (Below.drew (Below.drew (Below.refl _ _))) | exact q6.sl.below (Below.drew (Below.drew (Below.drew (Below.refl _ _)))) | exact q6.sl.below (Below.drew (Below.drew (Below.drew (Below.drew (Below.refl _ _)))))) HCW.out).mono ?_; rintro e w7 ⟨ga, rfl, hga, ua, b7⟩; have B7 : Hid (Below wr.heap.size wr w7) := (by first | exact bthen (B6.out) b7 | exact bthen (Below.drew (B6.out)) b7 | exact bthen (Below.drew (Below.drew (B6.out))) b7 | exact bthen (Below.drew (Below.drew (Below.drew (B6.out)))) b7 | exact bthen (Below.drew (Below.drew (Below.drew (Below.drew (B6.out))))) b7); have KEEP : Hid (w7.cell? ⟨w.heap.size, 0, none⟩ = some (.int .i64 n) ∧ w7.cell? ⟨w.heap.size, 1, none⟩ = some (.slice a0 es.length c0)) := (by exact ⟨kept B7.out p0, kept B7.out p1⟩))
               | fail)
            all_goals
              go_wp2_with fail
              go_meet
              exact ⟨ga, rfl, rfl, ua, B7.out⟩
        · by_cases hq : c4 = k1
          · subst hq
            have HLR0 : Hid ((ints (T.drop c4)).length = 0) := by unfold Hid; rw [ints_length, List.length_drop]; omega
            go_region_held3 (fun w' => w'.cell? ⟨w.heap.size, 0, none⟩ = some (.int .i64 n) ∧ w'.cell? ⟨w.heap.size, 1, none⟩ = some (.slice a0 es.length c0)) (first | exact KEEP.out | go_keep)
              (first
               | (go_at_call 30; refine (concat_two wr.heap.size b1 off1 c4 b1 (off1) 0 (ints (T.take k)) (ints (T.drop c4)) _ (by rw [ints_length, List.length_take]; omega) (by rw [ints_length, List.length_drop]; omega) (by intro i hi; exact kept_alloc (HL1.out i hi)) (by intro i hi; exact absurd hi (by rw [ints_length, List.length_drop]; omega)) (by rw [HLL.out]; exact cell_new wr _ _ 0 _ rfl) (by rw [HLR0.out]; exact cell_new wr _ _ 1 _ rfl)).mono ?_; rintro e w5 ⟨u5, rfl, s5, b5⟩; have B5 : Hid (Below wr.heap.size wr w5) := (by first | exact bthen (balloc (Below.refl wr.heap.size wr) _) b5 | exact bthen (Below.drew (balloc (Below.refl wr.heap.size wr) _)) b5 | exact bthen (Below.drew (Below.drew (balloc (Below.refl wr.heap.size wr) _))) b5 | exact bthen (Below.drew (Below.drew (Below.drew (balloc (Below.refl wr.heap.size wr) _)))) b5 | exact bthen (Below.drew (Below.drew (Below.drew (Below.drew (balloc (Below.refl wr.heap.size wr) _))))) b5); have KEEP : Hid (w5.cell? ⟨w.heap.size, 0, none⟩ = some (.int .i64 n) ∧ w5.cell? ⟨w.heap.size, 1, none⟩ = some (.slice a0 es.length c0)) := (by exact ⟨kept B5.out p0, kept B5.out p1⟩))
               | (go_at_call 25; refine (pairs_any n _ _ es (wo T k) _ (by first | exact VV.out.below B5.out | exact VV.out.below (Below.drew B5.out) | exact VV.out.below (Below.drew (Below.drew B5.out))) (by rw [← ints_wo, HK1.out]; first | exact s5.sl | exact s5.sl.below (Below.drew (Below.refl _ _)) | exact s5.sl.below (Below.drew (Below.drew (Below.refl _ _)))) (wo_lt HTm.out k) (by have := wo_length T k; omega)).mono ?_; rintro e w6 ⟨u6, rfl, q6, b6⟩; have B6 : Hid (Below wr.heap.size wr w6) := (by first | exact bthen (B5.out) b6 | exact bthen (Below.drew (B5.out)) b6 | exact bthen (Below.drew (Below.drew (B5.out))) b6 | exact bthen (Below.drew (Below.drew (Below.drew (B5.out)))) b6 | exact bthen (Below.drew (Below.drew (Below.drew (Below.drew (B5.out))))) b6); have KEEP : Hid (w6.cell? ⟨w.heap.size, 0, none⟩ = some (.int .i64 n) ∧ w6.cell? ⟨w.heap.size, 1, none⟩ = some (.slice a0 es.length c0)) := (by exact ⟨kept B6.out p0, kept B6.out p1⟩))
               | (go_at_call 12; refine (Un.of_yes n _ (pl es (wo T k)) _ (by first | exact q6.sl | exact q6.sl.below (Below.drew (Below.refl _ _)) | exact q6.sl.below (Below.drew (Below.drew (Below.refl _ _))) | exact q6.sl.below (Below.drew (Below.drew (Below.drew (Below.refl _ _)))) | exact q6.sl.below (Below.drew (Below.drew (Below.drew (Below.drew (Below.refl _ _)))))) HCW.out).mono ?_; rintro e w7 ⟨ga, rfl, hga, ua, b7⟩; have B7 : Hid (Below wr.heap.size wr w7) := (by first | exact bthen (B6.out) b7 | exact bthen (Below.drew (B6.out)) b7 | exact bthen (Below.drew (Below.drew (B6.out))) b7 | exact bthen (Below.drew (Below.drew (Below.drew (B6.out)))) b7 | exact bthen (Below.drew (Below.drew (Below.drew (Below.drew (B6.out))))) b7); have KEEP : Hid (w7.cell? ⟨w.heap.size, 0, none⟩ = some (.int .i64 n) ∧ w7.cell? ⟨w.heap.size, 1, none⟩ = some (.slice a0 es.length c0)) := (by exact ⟨kept B7.out p0, kept B7.out p1⟩))
               | fail)
            all_goals
              go_wp2_with fail
              go_meet
              exact ⟨ga, rfl, rfl, ua, B7.out⟩
          · have hq2 : (k1 : Int) < (c4 : Int) := by omega
            go_region_held3 (fun w' => w'.cell? ⟨w.heap.size, 0, none⟩ = some (.int .i64 n) ∧ w'.cell? ⟨w.heap.size, 1, none⟩ = some (.slice a0 es.length c0)) (first | exact KEEP.out | go_keep)
              (first
               | (go_at_call 30; refine (concat_two wr.heap.size b1 off1 c4 b1 (off1 + k1) (c4 - k1) (ints (T.take k)) (ints (T.drop k1)) _ (by rw [ints_length, List.length_take]; omega) (by rw [ints_length, List.length_drop]; omega) (by intro i hi; exact kept_alloc (HL1.out i hi)) (by intro i hi; exact kept_alloc (HL2.out i hi)) (by rw [HLL.out]; exact cell_new wr _ _ 0 _ rfl) (by rw [HLR.out]; exact cell_new wr _ _ 1 _ rfl)).mono ?_; rintro e w5 ⟨u5, rfl, s5, b5⟩; have B5 : Hid (Below wr.heap.size wr w5) := (by first | exact bthen (balloc (Below.refl wr.heap.size wr) _) b5 | exact bthen (Below.drew (balloc (Below.refl wr.heap.size wr) _)) b5 | exact bthen (Below.drew (Below.drew (balloc (Below.refl wr.heap.size wr) _))) b5 | exact bthen (Below.drew (Below.drew (Below.drew (balloc (Below.refl wr.heap.size wr) _)))) b5 | exact bthen (Below.drew (Below.drew (Below.drew (Below.drew (balloc (Below.refl wr.heap.size wr) _))))) b5); have KEEP : Hid (w5.cell? ⟨w.heap.size, 0, none⟩ = some (.int .i64 n) ∧ w5.cell? ⟨w.heap.size, 1, none⟩ = some (.slice a0 es.length c0)) := (by exact ⟨kept B5.out p0, kept B5.out p1⟩))
               | (go_at_call 25; refine (pairs_any n _ _ es (wo T k) _ (by first | exact VV.out.below B5.out | exact VV.out.below (Below.drew B5.out) | exact VV.out.below (Below.drew (Below.drew B5.out))) (by rw [← ints_wo, HK1.out]; first | exact s5.sl | exact s5.sl.below (Below.drew (Below.refl _ _)) | exact s5.sl.below (Below.drew (Below.drew (Below.refl _ _)))) (wo_lt HTm.out k) (by have := wo_length T k; omega)).mono ?_; rintro e w6 ⟨u6, rfl, q6, b6⟩; have B6 : Hid (Below wr.heap.size wr w6) := (by first | exact bthen (B5.out) b6 | exact bthen (Below.drew (B5.out)) b6 | exact bthen (Below.drew (Below.drew (B5.out))) b6 | exact bthen (Below.drew (Below.drew (Below.drew (B5.out)))) b6 | exact bthen (Below.drew (Below.drew (Below.drew (Below.drew (B5.out))))) b6); have KEEP : Hid (w6.cell? ⟨w.heap.size, 0, none⟩ = some (.int .i64 n) ∧ w6.cell? ⟨w.heap.size, 1, none⟩ = some (.slice a0 es.length c0)) := (by exact ⟨kept B6.out p0, kept B6.out p1⟩))
               | (go_at_call 12; refine (Un.of_yes n _ (pl es (wo T k)) _ (by first | exact q6.sl | exact q6.sl.below (Below.drew (Below.refl _ _)) | exact q6.sl.below (Below.drew (Below.drew (Below.refl _ _))) | exact q6.sl.below (Below.drew (Below.drew (Below.drew (Below.refl _ _)))) | exact q6.sl.below (Below.drew (Below.drew (Below.drew (Below.drew (Below.refl _ _)))))) HCW.out).mono ?_; rintro e w7 ⟨ga, rfl, hga, ua, b7⟩; have B7 : Hid (Below wr.heap.size wr w7) := (by first | exact bthen (B6.out) b7 | exact bthen (Below.drew (B6.out)) b7 | exact bthen (Below.drew (Below.drew (B6.out))) b7 | exact bthen (Below.drew (Below.drew (Below.drew (B6.out)))) b7 | exact bthen (Below.drew (Below.drew (Below.drew (Below.drew (B6.out))))) b7); have KEEP : Hid (w7.cell? ⟨w.heap.size, 0, none⟩ = some (.int .i64 n) ∧ w7.cell? ⟨w.heap.size, 1, none⟩ = some (.slice a0 es.length c0)) := (by exact ⟨kept B7.out p0, kept B7.out p1⟩))
               | fail)
            all_goals
              go_wp2_with fail
              go_meet
              exact ⟨ga, rfl, rfl, ua, B7.out⟩
      case rest =>
        obtain ⟨gg, rfl, rfl, ua, hbc⟩ := hcut
        have UA : Hid _ := ua
        have BC : Hid (Below wr.heap.size wr wc) := hbc
        have BW : Hid (Below w4.heap.size w4 wc) := bthen HB.out hbc
        clear ua p0 p1
        obtain ⟨b8, off8, cap8, hveq, hc⟩ := (VV.out.below BC.out).some' (by omega)
        simp only [Value.slice.injEq] at hveq
        obtain ⟨rfl, -, rfl⟩ := hveq
        obtain ⟨-, -, d2⟩ := hc i hm
        have HC9 : Hid ((at3 es i).2.2 = cs es i) := rfl
        rw [HC9.out] at d2
        obtain ⟨p0, p1⟩ := PW.out.below BC.out
        clear hc hbc
        obtain ⟨a1, -⟩ := UA.out.cell a ha
        obtain ⟨a2, -⟩ := UA.out.cell b hb
        have hai : (a : Int) < (n : Int) := by omega
        have hbi : (b : Int) < (n : Int) := by omega
        generalize sn es a b T k = q at *
        obtain ⟨q1, q2⟩ := q
        simp only at HSK
        generalize Un.Uf.grp (pl es (wo T k)) a = ga at a1 HSK
        generalize Un.Uf.grp (pl es (wo T k)) b = gb at a2 HSK
        generalize cs es i = c at *
        clear HK1 HL1 HL2 HLL HLR hw0 hw1 hw2
        by_cases hE : ga = gb
        · subst hE
          have t1 : (((ga : Nat) : Int) != ((ga : Nat) : Int)) = false := by simp
          have HS2 : Hid (sn es a b T (k + 1) = (q1, q2)) := by unfold Hid; rw [HSK.out, if_neg (by simp)]
          clear HSK
          go_wp2_with fail
          go_quiet (fail)
          go_wp2_with fail
          go_roundw
          case rel => exact ⟨k + 1, by go_num, by omega, by rw [HS2.out], by rw [HS2.out], bdrewN BW.out nq⟩
          case measure => simp [intOf]; omega
        · have HNE : Hid ((((ga : Nat) : Int) != ((gb : Nat) : Int)) = true) := by unfold Hid; rw [bne_iff_ne]; intro e; exact hE (Int.ofNat_inj.1 e)
          have t1 := HNE.out
          have HE : Hid (ga ≠ gb) := hE
          clear hE
          cases q2
          · have HS2 : Hid (sn es a b T (k + 1) = (c, true)) := by unfold Hid; rw [HSK.out, if_pos ⟨HE.out, .inl rfl⟩]
            clear HSK
            go_wp2_with fail
            go_quiet (fail)
            go_wp2_with fail
            go_roundw
            case rel => exact ⟨k + 1, by go_num, by omega, by rw [HS2.out], by rw [HS2.out], bdrewN BW.out nq⟩
            case measure => simp [intOf]; omega
          · by_cases hlt9 : q1 < c
            · have HS2 : Hid (sn es a b T (k + 1) = (c, true)) := by unfold Hid; rw [HSK.out, if_pos ⟨HE.out, .inr hlt9⟩]
              clear HSK
              go_wp2_with fail
              go_quiet (fail)
              go_wp2_with fail
              go_roundw
              case rel => exact ⟨k + 1, by go_num, by omega, by rw [HS2.out], by rw [HS2.out], bdrewN BW.out nq⟩
              case measure => simp [intOf]; omega
            · have HS2 : Hid (sn es a b T (k + 1) = (q1, true)) := by unfold Hid; rw [HSK.out, if_neg (by simpa using fun _ => hlt9)]
              clear HSK
              go_wp2_with fail
              go_quiet (fail)
              go_wp2_with fail
              go_roundw
              case rel => exact ⟨k + 1, by go_num, by omega, by rw [HS2.out], by rw [HS2.out], bdrewN BW.out nq⟩
              case measure => simp [intOf]; omega
    · obtain rfl : k = T.length := by omega
      rw [HSN.out]
      have hq1 : (r1 == r1) = true := by simp
      go_wp2_with fail
      go_ret
      exact ⟨rfl, bthen B4.out HB.out⟩
theorem walk (n a b : Int) (v : Value) (es : List E) (w : World) (hv : SlE w v es) (hlen : es.length ≤ 9223372036854775807) :
    Calls Try.prog 10 #[.agg #[.int .i64 n, v], .int .i64 a, .int .i64 b] w fun e w' => e = .returned (.bool true) ∧ Below w.heap.size w w' := by
  by_cases hc : nck n es = 0
  · have hg := nck_zero.1 hc
    have hT : ∀ W, SlE W v es → Calls Try.prog 17 #[.agg #[.int .i64 n, v]] W fun e w' => ∃ u f, e = .returned (.tuple #[u, .int .i64 f]) ∧ Below W.heap.size W w' := by
      intro W hW
      obtain ⟨m, rfl⟩ := Int.eq_ofNat_of_zero_le (show 0 ≤ n by have := hg.n1; omega)
      refine (tree_yes m v es W hW hg).mono ?_
      rintro e w' ⟨u, rfl, -, hb⟩
      exact ⟨u, 0, rfl, hb⟩
    by_cases hp : plc n a = true ∧ plc n b = true ∧ a ≠ b
    · obtain ⟨m, rfl⟩ := Int.eq_ofNat_of_zero_le (show 0 ≤ n by have := hg.n1; omega)
      have h1 := of_decide_eq_true hp.1
      have h2 := of_decide_eq_true hp.2.1
      obtain ⟨x, rfl⟩ := Int.eq_ofNat_of_zero_le h1.1
      obtain ⟨y, rfl⟩ := Int.eq_ofNat_of_zero_le h2.1
      have hxy : x ≠ y := by have := hp.2.2; omega
      by_cases h5 : (nk es x y).2 = 0
      · exact walk_yes m x y v es w hv hg (by omega) (by omega) hxy h5
      · have hn : nk es x y = (0, 5) := by
          rcases nk_cases (es := es) hxy with ⟨h, _⟩ | ⟨k, _, h, _⟩
          · exact h
          · rw [h] at h5; exact absurd rfl h5
        refine walk_no m x y 5 v es w hv (by omega) (fun W hW => ?_) hT
        have := neck_yes m x y v es W hW hg (by omega) (by omega) hxy
        rw [hn] at this; exact this
    · exact walk_no n a b 1 v es w hv (by omega) (fun W hW => neck_arg n a b v es W hW hg hp) hT
  · refine walk_no n a b (nck n es) v es w hv hc (fun W hW => neck_net n a b v es W hW hlen hc) (fun W hW => ?_)
    refine (tree_no n v es W hW hlen hc).mono ?_
    rintro e w' ⟨rfl, hb⟩
    exact ⟨_, _, rfl, hb⟩
end Go.Proofs.Ytdgihpegdcoilaa.SNeck
