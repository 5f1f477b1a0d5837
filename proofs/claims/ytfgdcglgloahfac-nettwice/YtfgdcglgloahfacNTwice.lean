/-
  The law fellkeep.NetTwice, walked.
-/
import Derived.Test.YtfgdcglgloahfacST
import Derived.Test.YtfgdcglgloahfacSm
import Derived.Test.YtfgdcglgloahfacND
import Derived.Lib.AppendZerosOnto
namespace Go.Proofs.Ytfgdcglgloahfac.NTwice
open Go.RowKit
open _root_.Go.Proofs.Ytfgdcglgloahfac.Nm _root_.Go.Proofs.Ytfgdcglgloahfac.Sm

theorem one_new (w : World) (x y z : Int) : SlE (w.alloc (.cells #[.int .i64 x, .int .i64 y, .int .i64 z] 38)) (.slice (some ⟨w.heap.size, 0, none⟩) 1 1) [(x, y, z)] := by
  refine .row w.heap.size 0 1 rfl (fun i hi => ?_)
  obtain rfl : i = 0 := by simp at hi; omega
  exact ⟨cell_new w _ _ 0 _ rfl, cell_new w _ _ 1 _ rfl, cell_new w _ _ 2 _ rfl⟩
theorem g1 : Gn 2 [(0, 1, 5)] := nck_zero.1 (by decide)
theorem m1 : [((0, 1, 5) : E)].map trn = [(1, 0, 5)] := rfl

/-- Nothing is appended. -/
theorem run_append_nothing {w : World} {base n c : Nat} {out : Value} {xs : List Value} (h : w.ownsRow base 3 1 out n xs) (ty : TypeId) (a : Option Addr) : (Builtin.append_ #[22, 22] ty #[out, .slice a 0 c]).run Try.prog w = .ok out w := by
  obtain ⟨i0, hi0, hz0, hz1, hz2⟩ := info3_parts
  have hl : ∀ (x : Addr), (loadCells x 0).run Try.prog w = .ok #[] w := fun x => by simpa using run_loadCells_list (P := Try.prog) w x [] (by simp)
  rcases h.2 with ⟨rfl, rfl⟩ | ⟨g, cap, cur, rfl, _, _, hc, _⟩
  · cases a <;> simp [Builtin.append_, run_underlying Try.underlying22, sizeOf, typeInfo, hi0, Builtin.lenOf, Builtin.firstCells, hl]
  · cases a <;> simp [Builtin.append_, run_underlying Try.underlying22, sizeOf, typeInfo, hi0, Builtin.lenOf, Builtin.firstCells, hc, storeCells, hl]
theorem ints_one (es : List Int) : ∀ u ∈ es.map (fun z => Value.int .i64 z), u.oneCell' = true := by
  intro u hu
  obtain ⟨z, _, rfl⟩ := List.mem_map.1 hu
  rfl
/-- What an owned row of numbers that is not empty holds, to be appended. -/
theorem news {w : World} {base : Nat} {v : Value} {es : List Int} (h : Is w base v es) (h0 : 0 < es.length) : ∃ g cap, v = .slice (some ⟨g, 0, none⟩) es.length cap ∧ ∀ j u, (es.map (fun z => Value.int .i64 z))[j]? = some u → w.cell? ((⟨g, 0, none⟩ : Addr).add j) = some u := by
  rcases h.own.2 with ⟨rfl, h1⟩ | ⟨g, cap, cur, rfl, hb, h1, h2, h3, h4, h5⟩
  · omega
  · refine ⟨g, cap, rfl, fun j u hj => ?_⟩
    have hadd : (⟨g, 0, none⟩ : Addr).add j = ⟨g, j, none⟩ := by unfold Addr.add; split <;> simp_all
    have hjl : j < es.length := by
      have := (List.getElem?_eq_some_iff.1 hj).1
      simpa using this
    have : cur[j]? = some u := by
      rw [← hj, ← h5, List.getElem?_take_of_lt (by omega), Array.getElem?_toList]
    rw [hadd]
    simp [World.cell?, h1, this]
theorem cat {w : World} {base cap gg : Nat} {es fs gs : List Int} (hg : gs = es ++ fs) (h : w.ownsRow base 3 1 (.slice (some ⟨gg, 0, none⟩) (es.length + fs.length) cap) (es.length + fs.length) (es.map (fun z => Value.int .i64 z) ++ fs.map (fun z => Value.int .i64 z))) : Is w base (.slice (some ⟨gg, 0, none⟩) (es.length + fs.length) cap) gs := by
  subst hg
  refine ⟨?_⟩
  rw [List.map_append, List.length_append]
  exact h

set_option maxRecDepth 100000 in
set_option maxHeartbeats 8000000 in
theorem walk (n : Int) (v : Value) (es : List E) (w : World) (hv : SlE w v es) (hlen : es.length ≤ 9223372036854775807) :
    Calls Try.prog 6 #[.agg #[.int .i64 n, v]] w fun e w' => e = .returned (.bool true) ∧ Below w.heap.size w w' := by
  obtain ⟨a0, c0, rfl⟩ := hv.val
  have HV : Hid _ := hv
  clear hv
  have HT1 : Hid _ := fun v w hv => turn_yes 2 v [(0, 1, 5)] w hv g1
  rw [m1] at HT1
  go_enter Try.func6, Try.ntmps6
  go_wp2_with fail
  have P0 : Hid _ := box2_new w n (.slice a0 es.length c0) 34
  have B0 : Hid (Below w.heap.size w (w.alloc (.cells #[.int .i64 n, .slice a0 es.length c0] 34))) := balloc (Below.refl _ _) _
  have hz0 : (w.alloc (.cells #[.int .i64 n, .slice a0 es.length c0] 34)).heap.size = w.heap.size + 1 := by simp
  generalize w.alloc (.cells #[.int .i64 n, .slice a0 es.length c0] 34) = W0 at *
  have S1 : Hid _ := one_new W0 0 1 5
  rw [hz0] at S1
  have P1 : Hid _ := P0.out.below (balloc (Below.refl _ _) (.cells #[.int .i64 0, .int .i64 1, .int .i64 5] 38))
  have B1 : Hid (Below w.heap.size w (W0.alloc (.cells #[.int .i64 0, .int .i64 1, .int .i64 5] 38))) := balloc B0.out _
  generalize W0.alloc (.cells #[.int .i64 0, .int .i64 1, .int .i64 5] 38) = W1 at *
  clear hz0 P0 B0
  refine (HT1.out _ W1 S1.out).mono ?_
  rintro e w2 ⟨u, rfl, o2, b2⟩
  obtain ⟨au, cu, rfl⟩ := o2.sl.val
  have O2 : Hid _ := o2.sl
  have P2 : Hid _ := P1.out.below b2
  have B2 : Hid (Below w.heap.size w w2) := bthen B1.out b2
  clear o2 b2 P1 B1 S1 HT1
  go_wp2_with fail
  obtain ⟨W3, hW3⟩ : ∃ W3, W3 = w2.alloc (.cells #[.int .i64 2, .slice au 1 cu] 34) := ⟨_, rfl⟩
  have B3 : Hid (Below w2.heap.size w2 W3) := by rw [hW3]; exact balloc (Below.refl _ _) _
  have hz3 : W3.heap.size = w2.heap.size + 1 := by rw [hW3]; simp
  have S4 : Hid _ := one_new W3 1 0 5
  rw [hz3] at S4
  have B4 : Hid (Below w2.heap.size w2 (W3.alloc (.cells #[.int .i64 1, .int .i64 0, .int .i64 5] 38))) := balloc B3.out _
  rw [← hW3]
  generalize W3.alloc (.cells #[.int .i64 1, .int .i64 0, .int .i64 5] 38) = W4 at *
  clear hz3 hW3 B3
  refine (sameNet_yes 2 _ _ [(1, 0, 5)] W4 (O2.out.below B4.out) S4.out (by simp)).mono ?_
  rintro e w5 ⟨rfl, b5⟩
  have P5 : Hid _ := (P2.out.below B4.out).below b5
  have B5 : Hid (Below w.heap.size w w5) := bthen (bthen B2.out B4.out) b5
  clear b5 P2 B2 B4 S4 O2
  obtain ⟨p0, p1⟩ := P5.out
  go_wp2_with fail
  clear p0 p1
  have V5 : Hid _ := HV.out.below B5.out
  by_cases hc : nck n es = 0
  · have HG : Hid _ := nck_zero.1 hc
    have hl6 := (nck_zero.1 hc).len
    have hn1 := (nck_zero.1 hc).n1
    have hn64 := (nck_zero.1 hc).n64
    have HTY : Hid _ := fun v w hv => turn_yes n v es w hv HG.out
    have HTZ : Hid _ := fun v w hv => turn_yes n v (es.map trn) w hv (gn_trn HG.out)
    rw [trn_trn] at HTZ
    have hlm : (es.map trn).length ≤ 600 := by simp; omega
    clear hc
    generalize es.map trn = fs at *
    refine (HTY.out _ w5 V5.out).mono ?_
    rintro e w6 ⟨u, rfl, o6, b6⟩
    obtain ⟨a6, c6, rfl⟩ := o6.sl.val
    have O6 : Hid _ := o6.sl
    have P6 : Hid _ := P5.out.below b6
    have B6 : Hid (Below w.heap.size w w6) := bthen B5.out b6
    clear o6 b6 P5 B5 V5
    go_wp2_with fail
    have P7 : Hid _ := P6.out.below (balloc (Below.refl _ _) (.cells #[.int .i64 n, .slice a6 fs.length c6] 34))
    have O7 : Hid _ := O6.out.below (balloc (Below.refl _ _) (.cells #[.int .i64 n, .slice a6 fs.length c6] 34))
    have B7 : Hid (Below w.heap.size w (w6.alloc (.cells #[.int .i64 n, .slice a6 fs.length c6] 34))) := balloc B6.out _
    generalize w6.alloc (.cells #[.int .i64 n, .slice a6 fs.length c6] 34) = W7 at *
    clear P6 B6 O6
    refine (HTZ.out _ W7 O7.out).mono ?_
    rintro e w8 ⟨u, rfl, o8, b8⟩
    obtain ⟨a8, c8, rfl⟩ := o8.sl.val
    have O8 : Hid _ := o8.sl
    have P8 : Hid _ := P7.out.below b8
    have B8 : Hid (Below w.heap.size w w8) := bthen B7.out b8
    clear o8 b8 P7 B7 O7
    obtain ⟨p0, p1⟩ := P8.out.below (balloc (Below.refl _ _) (.cells #[.int .i64 n, .slice a8 es.length c8] 34))
    go_wp2_with fail
    clear p0 p1
    have P9 : Hid _ := P8.out.below (balloc (Below.refl _ _) (.cells #[.int .i64 n, .slice a8 es.length c8] 34))
    have O9 : Hid _ := O8.out.below (balloc (Below.refl _ _) (.cells #[.int .i64 n, .slice a8 es.length c8] 34))
    have B9 : Hid (Below w.heap.size w (w8.alloc (.cells #[.int .i64 n, .slice a8 es.length c8] 34))) := balloc B8.out _
    generalize w8.alloc (.cells #[.int .i64 n, .slice a8 es.length c8] 34) = W9 at *
    clear P8 B8 O8
    refine (sameNet_yes n _ _ es W9 (HV.out.below B9.out) O9.out hlen).mono ?_
    rintro e w10 ⟨rfl, b10⟩
    have P10 : Hid _ := P9.out.below b10
    have B10 : Hid (Below w.heap.size w w10) := bthen B9.out b10
    clear b10 P9 B9 O9
    have V10 : Hid _ := HV.out.below B10.out
    obtain ⟨p0, p1⟩ := P10.out
    go_wp2_with fail
    clear p0 p1
    obtain ⟨m, hm⟩ := Int.eq_ofNat_of_zero_le (show 0 ≤ n by omega)
    have HSA : Hid _ := sort_alls HG.out
    have HAL : Hid _ := alls_length HG.out
    subst hm
    rw [Int.toNat_natCast] at HSA HAL
    go_loopw [63, 8] (fun z out wr => ∃ k : Nat, z = .int .i64 k ∧ k ≤ m ∧ Is wr w10.heap.size out (alls es k) ∧ Below w10.heap.size w10 wr) (fun z _ _ => m - (intOf z).toNat)
    case atStart => exact ⟨0, rfl, Nat.zero_le _, Is.nil _ _, Below.refl _ _⟩
    case round =>
      obtain ⟨k, rfl, hk, o, hb⟩ := hrel
      obtain ⟨ao, co, rfl⟩ := o.sl.val
      have O : Hid _ := o
      have HB : Hid (Below w10.heap.size w10 wr) := hb
      clear o hb
      by_cases hlt : k < m
      · have hki : (k : Int) < (m : Int) := by omega
        obtain ⟨p0, p1⟩ := P10.out.below HB.out
        go_wp2_with fail
        clear p0 p1
        refine (out_yes m k _ es wr (V10.out.below HB.out) HG.out (plc_yes (by omega) hki)).mono ?_
        rintro e w11 ⟨u, rfl, i11, b11⟩
        have O11 : Hid _ := O.out.below b11
        have B11 : Hid (Below w10.heap.size w10 w11) := bthen HB.out b11
        have HA : Hid _ := alls_next es k
        have hal := alls_le es k
        have hmul : k * es.length ≤ 64 * 600 := Nat.mul_le_mul (by omega) hl6
        have hol := outs_length k es es.length
        have hown := O11.out.own
        have hwz := B11.out.size
        clear b11 O HB
        generalize outs (k : Int) es es.length = ms at *
        by_cases hm0 : 0 < ms.length
        · obtain ⟨gm, cm, rfl, hnews⟩ := news i11 hm0
          have NW : Hid _ := hnews
          have ON : Hid _ := ints_one ms
          have FL : Hid ((ms.map (fun z => Value.int .i64 z)).length = ms.length * 1) := by unfold Hid; simp
          clear hnews i11
          obtain ⟨i0, hi0, hz0, hz1, hz2⟩ := info3_parts
          go_wp2_with (at_builtin; refine wpList_append_lies _ rfl _ _ _ rfl w10.heap.size 3 i0 _ 1 8 Try.underlying22 hi0 hz0 hz1 hz2 rfl (by omega) (.slice ao (alls es k).length co) (alls es k).length ((alls es k).map (fun z => .int .i64 z)) rfl hown ⟨gm, 0, none⟩ ms.length cm (ms.map (fun z => .int .i64 z)) rfl FL.out NW.out ON.out hm0 (by unfold maxLen; omega) (by omega) (by omega) w11.heap.size rfl ?_; intro gg cap' w12 hown12 hgrow hat hlt12)
          have B12 : Hid (Below w10.heap.size w10 w12) := B11.out.grown hgrow (by omega) (fun k hk => (ownBlock_lt hown k hk).1)
          go_wp2_with fail
          go_roundw
          case rel => exact ⟨k + 1, by go_num, by omega, cat HA.out hown12, B12.out⟩
          case measure => simp [intOf]; omega
        · obtain rfl : ms = [] := List.length_eq_zero_iff.1 (by omega)
          obtain ⟨a4, c4, rfl⟩ := i11.sl.val
          have HRN : Hid _ := fun ty => run_append_nothing (c := c4) hown ty a4
          clear i11 hown
          go_wp2_with (at_builtin; refine Lib.wpList_append_run _ rfl _ _ _ _ rfl _ _ rfl rfl _ _ (HRN.out _) ?_)
          go_roundw
          case rel => exact ⟨k + 1, by go_num, by omega, by rw [HA.out, List.append_nil]; exact O11.out, B11.out⟩
          case measure => simp [intOf]; omega
      · have hke : k = m := by omega
        subst hke
        go_wp2_with fail
        have HLN : Hid _ := HAL.out
        refine (sort_own O.out (by have := HAL.out; omega)).mono ?_
        rintro e w12 ⟨rfl, s12, b12⟩
        rw [HSA.out] at s12
        have S12 : Hid _ := s12
        have B12 : Hid (Below w.heap.size w w12) := B10.out.trans ((HB.out.trans b12).mono B10.out.size)
        obtain ⟨p0, p1⟩ := P10.out.below (HB.out.trans b12)
        have PB : Hid _ := P10.out.below (HB.out.trans b12)
        clear s12 b12 O HB
        have hal2 := HAL.out
        rw [hal2] at S12 ⊢
        clear hal2
        have RG : Hid (∀ i, i < es.length → ((List.range es.length).map (fun i : Nat => (i : Int))).getD i 0 = (i : Int)) := fun i hi => by simp [hi]
        have RL : Hid (((List.range es.length).map (fun i : Nat => (i : Int))).length = es.length) := by unfold Hid; simp
        go_wp2_with fail
        clear p0 p1
        go_loopw [82] (fun z wr => ∃ j : Nat, z = .int .i64 j ∧ j ≤ es.length ∧ wr = w12) (fun z _ => es.length - (intOf z).toNat)
        case atStart => exact ⟨0, rfl, Nat.zero_le _, rfl⟩
        case round =>
          obtain ⟨j, rfl, hj, rfl⟩ := hrel
          by_cases hjl : j < es.length
          · have hji : (j : Int) < (es.length : Int) := by omega
            obtain ⟨b, off, cap, hveq, hcl⟩ := S12.out.some' (by rw [RL.out]; omega)
            simp only [Value.slice.injEq] at hveq
            obtain ⟨rfl, -, rfl⟩ := hveq
            have d0 := hcl j (by rw [RL.out]; exact hjl)
            rw [RG.out j hjl] at d0
            clear hcl
            go_wp2_with fail
            go_roundw
            case rel => exact ⟨j + 1, by go_num, by omega, trivial⟩
            case measure => simp [intOf]; omega
          · have hje : j = es.length := by omega
            subst hje
            obtain ⟨p0, p1⟩ := PB.out
            go_wp2_with fail
            go_ret
            exact ⟨rfl, B12.out⟩
  · have hz : (nck n es != 0) = true := by simp [hc]
    have HC : Hid _ := hc
    clear hc
    refine (turn_bad n _ es w5 V5.out hlen HC.out).mono ?_
    rintro e w6 ⟨rfl, b6⟩
    have P6 : Hid _ := P5.out.below b6
    have B6 : Hid (Below w.heap.size w w6) := bthen B5.out b6
    clear b6 P5 B5 V5
    obtain ⟨p0, p1⟩ := P6.out.below (balloc (Below.refl _ _) (.cells #[.int .i64 0, .slice none 0 0] 34))
    go_wp2_with fail
    clear p0 p1
    have Q7 : Hid _ := box2_new w6 0 (.slice none 0 0) 34
    have B7 : Hid (Below w.heap.size w (w6.alloc (.cells #[.int .i64 0, .slice none 0 0] 34))) := balloc B6.out _
    generalize w6.alloc (.cells #[.int .i64 0, .slice none 0 0] 34) = W7 at *
    refine (ncheck_any n _ es W7 (HV.out.below B7.out) hlen).mono ?_
    rintro e w8 ⟨rfl, b8⟩
    have B8 : Hid (Below w.heap.size w w8) := bthen B7.out b8
    obtain ⟨q0, q1⟩ := Q7.out.below b8
    clear b8
    go_wp2_with fail
    go_ret
    exact ⟨rfl, B8.out⟩
end Go.Proofs.Ytfgdcglgloahfac.NTwice
