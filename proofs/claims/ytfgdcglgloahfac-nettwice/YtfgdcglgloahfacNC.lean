/-
  Contracts: the document's Pos; Out.
-/
import Derived.Test.YtfgdcglgloahfacNB
namespace Go.Proofs.Ytfgdcglgloahfac
open Go.RowKit
open Nm

theorem pos1_any (x y z : Int) (w : World) : Calls Try.prog 27 #[.agg #[.int .i64 x, .int .i64 y, .int .i64 z]] w fun e w' => e = .returned (.bool (decide (z ≤ 0))) ∧ Below w.heap.size w w' := by
  go_enter Try.func27, Try.ntmps27
  go_wp2_with fail
  go_ret
  exact ⟨rfl, balloc (Below.refl _ _) _⟩

set_option maxRecDepth 100000 in
set_option maxHeartbeats 8000000 in
/-- slices.IndexFunc with the document's question: the first edge that costs less than 1, or -1. -/
theorem idxPos_any (v : Value) (es : List E) (w : World) (hv : SlE w v es) (hlen : es.length ≤ 9223372036854775807) :
    Calls Try.prog 32 #[v, .func (.func 27) #[] #[]] w fun e w' => ((∃ i : Nat, e = .returned (.int .i64 i) ∧ i < es.length ∧ (at3 es i).2.2 < 1) ∨ (e = .returned (.int .i64 (-1)) ∧ ∀ i, i < es.length → 1 ≤ (at3 es i).2.2)) ∧ Below w.heap.size w w' := by
  obtain ⟨a0, c0, rfl⟩ := hv.val
  have HV : Hid _ := hv
  clear hv
  go_enter Try.func32, Try.ntmps32
  go_wp2_with fail
  go_loopw [8] (fun z wr => ∃ k : Nat, z = .int .i64 k ∧ k ≤ es.length ∧ (∀ i, i < k → 1 ≤ (at3 es i).2.2) ∧ Below w.heap.size w wr) (fun z _ => es.length - (intOf z).toNat)
  case atStart => exact ⟨0, rfl, Nat.zero_le _, fun i hi => absurd hi (by omega), Below.refl _ _⟩
  case round =>
    obtain ⟨k, rfl, hk, he, hb⟩ := hrel
    have HE : Hid _ := he
    have HB : Hid (Below w.heap.size w wr) := hb
    clear he hb
    by_cases hlt : k < es.length
    · have hki : (k : Int) < (es.length : Int) := by omega
      obtain ⟨b, off, cap, hveq, hcl⟩ := (HV.out.below HB.out).some' (by omega)
      simp only [Value.slice.injEq] at hveq
      obtain ⟨rfl, -, rfl⟩ := hveq
      obtain ⟨d0, d1, d2⟩ := hcl k hlt
      clear hcl
      obtain ⟨p, hp⟩ : ∃ p, at3 es k = p := ⟨_, rfl⟩
      rw [hp] at d0 d1 d2
      have HP : Hid _ := hp
      clear hp
      obtain ⟨x, y, z⟩ := p
      simp only at d0 d1 d2
      go_wp2_with fail
      refine (pos1_any x y z wr).mono ?_
      rintro e w2 ⟨rfl, b2⟩
      have B2 : Hid (Below w.heap.size w w2) := bthen HB.out b2
      clear b2
      by_cases hz : z ≤ 0
      · go_wp2_with fail
        go_ret
        exact ⟨.inl ⟨k, rfl, hlt, by rw [HP.out]; show z < 1; omega⟩, B2.out⟩
      · go_wp2_with fail
        go_roundw
        case rel =>
          refine ⟨k + 1, by go_num, by omega, fun i hi => ?_, B2.out⟩
          rcases (show i < k ∨ i = k by omega) with h | rfl
          · exact HE.out i h
          · rw [HP.out]; show 1 ≤ z; omega
        case measure => simp [intOf]; omega
    · have hke : k = es.length := by omega
      subst hke
      go_wp2_with fail
      go_ret
      exact ⟨.inr ⟨rfl, HE.out⟩, HB.out⟩
set_option maxRecDepth 100000 in
set_option maxHeartbeats 8000000 in
theorem conPos_any (v : Value) (es : List E) (w : World) (hv : SlE w v es) (hlen : es.length ≤ 9223372036854775807) :
    Calls Try.prog 26 #[v, .func (.func 27) #[] #[]] w fun e w' => ((e = .returned (.bool true) ∧ ∃ i : Nat, i < es.length ∧ (at3 es i).2.2 < 1) ∨ (e = .returned (.bool false) ∧ ∀ i, i < es.length → 1 ≤ (at3 es i).2.2)) ∧ Below w.heap.size w w' := by
  obtain ⟨a0, c0, rfl⟩ := hv.val
  have HV : Hid _ := hv
  clear hv
  go_enter Try.func26, Try.ntmps26
  go_wp2_with fail
  refine (idxPos_any _ es w HV.out hlen).mono ?_
  rintro e w1 ⟨(⟨i, rfl, hi, hl⟩ | ⟨rfl, ha⟩), b1⟩
  · have HI : Hid _ := hi
    have HL : Hid _ := hl
    have hi0 : (0 : Int) ≤ (i : Int) := by omega
    clear hi hl
    go_wp2_with fail
    go_ret
    exact ⟨.inl ⟨rfl, i, HI.out, HL.out⟩, b1⟩
  · have HA : Hid _ := ha
    clear ha
    go_wp2_with fail
    go_ret
    exact ⟨.inr ⟨rfl, HA.out⟩, b1⟩

set_option maxRecDepth 100000 in
set_option maxHeartbeats 8000000 in
theorem rpos_any (n : Int) (v : Value) (es : List E) (w : World) (hv : SlE w v es) (hlen : es.length ≤ 9223372036854775807) :
    Calls Try.prog 17 #[.agg #[.int .i64 n, v]] w fun e w' => e = .returned (.int .i64 (nps n es)) ∧ Below w.heap.size w w' := by
  obtain ⟨a0, c0, rfl⟩ := hv.val
  have HV : Hid _ := hv
  clear hv
  by_cases hc : nck n es = 0
  · have HC : Hid _ := hc
    clear hc
    go_enter Try.func17, Try.ntmps17
    go_wp2_with fail
    have P0 : Hid _ := box2_new w n (.slice a0 es.length c0) 34
    have B0 : Hid (Below w.heap.size w (w.alloc (.cells #[.int .i64 n, .slice a0 es.length c0] 34))) := balloc (Below.refl _ _) _
    generalize w.alloc (.cells #[.int .i64 n, .slice a0 es.length c0] 34) = W0 at *
    refine (rnet_any n _ es W0 (HV.out.below B0.out) hlen).mono ?_
    rintro e w1 ⟨rfl, b1⟩
    rw [HC.out]
    have B1 : Hid (Below w.heap.size w w1) := bthen B0.out b1
    obtain ⟨p0, p1⟩ := P0.out.below b1
    clear b1
    go_wp2_with fail
    clear p0 p1
    refine (conPos_any _ es w1 (HV.out.below B1.out) hlen).mono ?_
    rintro e w2 ⟨(⟨rfl, i, hi, hl⟩ | ⟨rfl, ha⟩), b2⟩
    · have HF : Hid _ := nps_low HC.out hi hl
      have B2 : Hid (Below w.heap.size w w2) := bthen B1.out b2
      clear b2 hi hl
      go_wp2_with fail
      go_ret
      exact ⟨ret_int (by rw [HF.out]), B2.out⟩
    · have HF : Hid _ := nps_ok HC.out ha
      have B2 : Hid (Below w.heap.size w w2) := bthen B1.out b2
      clear b2 ha
      go_wp2_with fail
      go_ret
      exact ⟨ret_int (by rw [HF.out]), B2.out⟩
  · have HF : Hid _ := nps_bad hc
    have hz : (nck n es != 0) = true := by simp [hc]
    clear hc
    go_enter Try.func17, Try.ntmps17
    go_wp2_with fail
    have B0 : Hid (Below w.heap.size w (w.alloc (.cells #[.int .i64 n, .slice a0 es.length c0] 34))) := balloc (Below.refl _ _) _
    generalize w.alloc (.cells #[.int .i64 n, .slice a0 es.length c0] 34) = W0 at *
    refine (rnet_any n _ es W0 (HV.out.below B0.out) hlen).mono ?_
    rintro e w1 ⟨rfl, b1⟩
    go_wp2_with fail
    go_ret
    exact ⟨ret_int (by rw [HF.out]), bthen B0.out b1⟩

set_option maxRecDepth 100000 in
set_option maxHeartbeats 8000000 in
theorem out_bad (n x : Int) (v : Value) (es : List E) (w : World) (hv : SlE w v es) (hlen : es.length ≤ 9223372036854775807) (hc : nck n es ≠ 0) :
    Calls Try.prog 18 #[.agg #[.int .i64 n, v], .int .i64 x] w fun e w' => e = .returned (.tuple #[.slice none 0 0, .int .i64 (nck n es)]) ∧ Below w.heap.size w w' := by
  obtain ⟨a0, c0, rfl⟩ := hv.val
  have HV : Hid _ := hv
  have hz : (nck n es != 0) = true := by simp [hc]
  clear hv hc
  go_enter Try.func18, Try.ntmps18
  go_wp2_with fail
  have B0 : Hid (Below w.heap.size w (w.alloc (.cells #[.int .i64 n, .slice a0 es.length c0] 34))) := balloc (Below.refl _ _) _
  generalize w.alloc (.cells #[.int .i64 n, .slice a0 es.length c0] 34) = W0 at *
  refine (ncheck_any n _ es W0 (HV.out.below B0.out) hlen).mono ?_
  rintro e w1 ⟨rfl, b1⟩
  go_wp2_with fail
  go_ret2
  exact ⟨rfl, bthen B0.out b1⟩
set_option maxRecDepth 100000 in
set_option maxHeartbeats 8000000 in
theorem out_at (n x : Int) (v : Value) (es : List E) (w : World) (hv : SlE w v es) (hg : Gn n es) (hx : plc n x = false) :
    Calls Try.prog 18 #[.agg #[.int .i64 n, v], .int .i64 x] w fun e w' => e = .returned (.tuple #[.slice none 0 0, .int .i64 1]) ∧ Below w.heap.size w w' := by
  obtain ⟨a0, c0, rfl⟩ := hv.val
  have HV : Hid _ := hv
  have HC : Hid _ := nck_zero.2 hg
  have HX : Hid _ := hx
  have hlen := hg.len
  clear hv hg hx
  go_enter Try.func18, Try.ntmps18
  go_wp2_with fail
  have P0 : Hid _ := box2_new w n (.slice a0 es.length c0) 34
  have B0 : Hid (Below w.heap.size w (w.alloc (.cells #[.int .i64 n, .slice a0 es.length c0] 34))) := balloc (Below.refl _ _) _
  generalize w.alloc (.cells #[.int .i64 n, .slice a0 es.length c0] 34) = W0 at *
  refine (ncheck_any n _ es W0 (HV.out.below B0.out) (by omega)).mono ?_
  rintro e w1 ⟨rfl, b1⟩
  rw [HC.out]
  have B1 : Hid (Below w.heap.size w w1) := bthen B0.out b1
  obtain ⟨p0, p1⟩ := P0.out.below b1
  clear b1
  go_wp2_with fail
  refine (isPlace_at n x _ _ _ _ w1 HX.out).mono ?_
  rintro e w2 ⟨rfl, b2⟩
  go_wp2_with fail
  go_ret2
  exact ⟨rfl, bthen B1.out b2⟩
set_option maxRecDepth 100000 in
set_option maxHeartbeats 8000000 in
theorem out_yes (n x : Int) (v : Value) (es : List E) (w : World) (hv : SlE w v es) (hg : Gn n es) (hx : plc n x = true) :
    Calls Try.prog 18 #[.agg #[.int .i64 n, v], .int .i64 x] w fun e w' => ∃ u, e = .returned (.tuple #[u, .int .i64 0]) ∧ Is w' w.heap.size u (outs x es es.length) ∧ Below w.heap.size w w' := by
  obtain ⟨a0, c0, rfl⟩ := hv.val
  have HV : Hid _ := hv
  have HC : Hid _ := nck_zero.2 hg
  have HX : Hid _ := hx
  have hlen := hg.len
  clear hv hg hx
  go_enter Try.func18, Try.ntmps18
  go_wp2_with fail
  have P0 : Hid _ := box2_new w n (.slice a0 es.length c0) 34
  have B0 : Hid (Below w.heap.size w (w.alloc (.cells #[.int .i64 n, .slice a0 es.length c0] 34))) := balloc (Below.refl _ _) _
  generalize w.alloc (.cells #[.int .i64 n, .slice a0 es.length c0] 34) = W0 at *
  refine (ncheck_any n _ es W0 (HV.out.below B0.out) (by omega)).mono ?_
  rintro e w1 ⟨rfl, b1⟩
  rw [HC.out]
  have P1 : Hid _ := P0.out.below b1
  have B1 : Hid (Below w.heap.size w w1) := bthen B0.out b1
  obtain ⟨p0, p1⟩ := P1.out
  clear b1
  go_wp2_with fail
  refine (isPlace_at n x _ _ _ _ w1 HX.out).mono ?_
  rintro e w2 ⟨rfl, b2⟩
  have B2 : Hid (Below w.heap.size w w2) := bthen B1.out b2
  clear p0 p1
  obtain ⟨p0, p1⟩ := P1.out.below b2
  clear b2
  go_wp2_with fail
  clear p0 p1
  have V2 : Hid _ := HV.out.below B2.out
  go_loopw [22, 7] (fun z out wr => ∃ k : Nat, z = .int .i64 k ∧ k ≤ es.length ∧ Is wr w2.heap.size out (outs x es k) ∧ Below w2.heap.size w2 wr) (fun z _ _ => es.length - (intOf z).toNat)
  case atStart => exact ⟨0, rfl, Nat.zero_le _, Is.nil _ _, Below.refl _ _⟩
  case round =>
    obtain ⟨k, rfl, hk, ho, hb⟩ := hrel
    have HO : Hid _ := ho
    have HB : Hid (Below w2.heap.size w2 wr) := hb
    clear ho hb
    by_cases hlt : k < es.length
    · have hki : (k : Int) < (es.length : Int) := by omega
      obtain ⟨b, off, cap, hveq, hcl⟩ := (V2.out.below HB.out).some' (by omega)
      simp only [Value.slice.injEq] at hveq
      obtain ⟨rfl, -, rfl⟩ := hveq
      obtain ⟨d0, d1, d2⟩ := hcl k hlt
      clear hcl
      have HY : Hid _ := @outs_yes x es k
      have HN : Hid _ := @outs_no x es k
      obtain ⟨p, hp⟩ : ∃ p, at3 es k = p := ⟨_, rfl⟩
      rw [hp] at d0 d1 d2 HY HN
      clear hp
      obtain ⟨a, y, z⟩ := p
      simp only at d0 d1 d2 HY HN
      by_cases hax : a = x
      · have HE : Hid _ := HY.out hax
        have hab : (a == x) = true := by simp [hax]
        have hol := outs_length x es k
        have hown := HO.out.own
        have hwz := HB.out.size
        have HNW : Hid (((wr.alloc (.cells #[.int .i64 a, .int .i64 y, .int .i64 z] 38)).alloc (.cells #[.int .i64 k] 3)).heap[wr.heap.size + 1]? = some (.cells #[.int .i64 k] 3)) := new_at _ _ (by simp)
        obtain ⟨i0, hi0, hz0, hz1, hz2⟩ := info3_parts
        clear hax HY HN
        generalize outs x es k = l at *
        go_wp2_with (at_builtin; refine wpList_append_lies _ rfl _ _ _ rfl w2.heap.size 3 i0 _ 1 8 Try.underlying22 hi0 hz0 hz1 hz2 rfl (by omega) u7 l.length (l.map (fun z => .int .i64 z)) rfl ((hown.alloc _).alloc _) ⟨wr.heap.size + 1, 0, none⟩ 1 1 [.int .i64 k] rfl rfl (World.news_of_block (cs := #[.int .i64 k]) (t := 3) (fr := (0, 0)) HNW.out) (by simp [Value.oneCell']) (by omega) (by unfold maxLen; omega) (by omega) (by simp; omega) (wr.heap.size + 1 + 1) (by simp) ?_; intro gg cap' w3 hown3 hgrow hat hlt3)
        have B3 : Hid (Below w2.heap.size w2 w3) := (balloc (balloc HB.out _) _).grown hgrow (by simp; omega) (fun k hk => (ownBlock_lt hown k hk).1)
        go_wp2_with fail
        go_roundw
        case rel => exact ⟨k + 1, by go_num, by omega, Is.next HE.out rfl hown3, B3.out⟩
        case measure => simp [intOf]; omega
      · have HE : Hid _ := HN.out hax
        have hab : (a == x) = false := by simp [hax]
        clear hax
        go_wp2_with fail
        go_roundw
        case rel => exact ⟨k + 1, by go_num, by omega, by rw [HE.out]; exact HO.out.below (balloc (Below.refl _ _) _), balloc HB.out _⟩
        case measure => simp [intOf]; omega
    · have hke : k = es.length := by omega
      subst hke
      go_wp2_with fail
      go_ret2
      exact ⟨_, rfl, HO.out.mono B2.out.size, bthen B2.out HB.out⟩
end Go.Proofs.Ytfgdcglgloahfac
