/-
  Contract: round.
-/
import Derived.Test.YtlmichnnpameeaaBA0
import Derived.Deep.DeepCutAuto
namespace Go.Proofs.Ytlmichnnpameeaa
open Go.RowKit
open Nm Wm Dm Bm
attribute [local go_sem ↓] Go.wp_at_zero Go.wp_at_succ

set_option maxRecDepth 100000 in
set_option maxHeartbeats 8000000 in
theorem round_any (N B G A r : Nat) (v : Value) (es : List E) (q : St) (w0 F w : World) (hv : SlE w0 v es) (hb : Rnt N es) (hst : Sb w0 F B G A N q.d q.a w) (hlo : ∀ v, v < N → -400000000 ≤ q.d v ∧ q.d v ≤ far) :
    Calls Try.prog 68 #[.pointer (some ⟨B, 0, none⟩), .agg #[.int .i64 N, v]] w fun e w' => e = .returned (.int .i64 (rnd r es q es.length).s) ∧ Sb w0 F B G A N (rnd r es q es.length).d (rnd r es q es.length).a w' := by
  obtain ⟨a0, c0, rfl⟩ := hv.val
  have HV : Hid _ := hv
  have HB : Hid _ := hb
  have HS : Hid _ := hst
  have hlen := hb.len
  clear hv hb hst
  go_enter Try.func68, Try.ntmps68
  go_wp2_with fail
  have S0 : Hid _ := HS.out.kept (balloc (Below.refl _ _) (.cells #[.int .i64 N, .slice a0 es.length c0] 24))
  generalize w.alloc (.cells #[.int .i64 N, .slice a0 es.length c0] 24) = W0 at *
  go_loopw [11, 5] (fun z s wr => ∃ i : Nat, z = .int .i64 i ∧ i ≤ es.length ∧ s = .int .i64 (rnd r es q i).s ∧ Sb w0 F B G A N (rnd r es q i).d (rnd r es q i).a wr) (fun z _ _ => es.length - (intOf z).toNat)
  case atStart => exact ⟨0, rfl, Nat.zero_le _, rfl, S0.out⟩
  case round =>
    clear S0 HS
    obtain ⟨i, rfl, hi, rfl, hst⟩ := hrel
    have ST : Hid _ := hst
    clear hst
    by_cases hlt : i < es.length
    · have hii : (i : Int) < (es.length : Int) := by omega
      obtain ⟨b, off, cap, hveq, hc⟩ := (HV.out.below ST.out.below).some' (by omega)
      simp only [Value.slice.injEq] at hveq
      obtain ⟨rfl, -, rfl⟩ := hveq
      obtain ⟨e0, e1, e2⟩ := hc i hlt
      clear hc
      have hok := HB.out.ok _ (mem_at hlt)
      have HLO : Hid _ := rnd_low HB.out (r := r) (q := q) (B := 400000000) (fun v hv => (hlo v hv).1) i (by omega)
      have HHI : Hid (∀ v, v < N → (rnd r es q i).d v ≤ far) := fun v hv => Int.le_trans (rnd_down r es q i v) (hlo v hv).2
      have HNX : Hid (rnd r es q (i + 1) = rstep (r * 1000 + i) (at3 es i) (rnd r es q i)) := rfl
      generalize rnd r es q i = Q at *
      have HY : Hid _ := @rstep_yes (r * 1000 + i) (at3 es i) Q
      have HN : Hid _ := @rstep_no (r * 1000 + i) (at3 es i) Q
      obtain ⟨p, hpe⟩ : ∃ p, at3 es i = p := ⟨_, rfl⟩
      rw [hpe] at e0 e1 e2 hok HNX HY HN
      clear hpe
      obtain ⟨x, y, c⟩ := p
      simp only at e0 e1 e2 hok
      obtain ⟨ok1, ok2, ok3, ok4, ok5, ok6⟩ := hok
      obtain ⟨x, rfl⟩ := Int.eq_ofNat_of_zero_le ok1
      obtain ⟨y, rfl⟩ := Int.eq_ofNat_of_zero_le ok3
      have hxN : x < N := by omega
      have hyN : y < N := by omega
      have l1 := HLO.out x hxN
      have l2 := HLO.out y hyN
      have u1 := HHI.out x hxN
      have u2 := HHI.out y hyN
      have hF : far = 1099511627776 := rfl
      rw [hF] at u1 u2
      have HSK : Hid (Sinks Q.d ((x : Int), (y : Int), c) ↔ (Q.d x < 1099511627776 ∧ Q.d x + c < Q.d y)) := by unfold Hid Sinks; simp only [Int.toNat_natCast]
      clear hF
      have S9 : Hid _ := ST.out.kept (balloc (Below.refl _ _) (.cells #[.int .i64 x, .int .i64 y, .int .i64 c] 50))
      have Y9 : Hid _ := box3_new wr x y (.int .i64 c) 50
      have YB : Hid (B < wr.heap.size) := hp_lt ST.out.box
      have YG : Hid (G < wr.heap.size) := ST.out.dist.lt
      have YA : Hid (A < wr.heap.size) := ST.out.ahead.lt
      go_wp2_with fail
      clear e0 e1 e2
      generalize wr.alloc (.cells #[.int .i64 x, .int .i64 y, .int .i64 c] 50) = W9 at *
      obtain ⟨Y, hY⟩ : ∃ Y, wr.heap.size = Y := ⟨_, rfl⟩
      rw [hY] at Y9 YB YG YA ⊢
      clear hY
      obtain ⟨y0, y1, y2⟩ := Y9.out
      obtain ⟨s0, s1⟩ := S9.out.cells
      obtain ⟨c1, _⟩ := S9.out.dist.cell x hxN
      obtain ⟨c2, f2⟩ := S9.out.dist.cell y hyN
      obtain ⟨c3, f3⟩ := S9.out.ahead.cell y hyN
      by_cases hsk : Q.d x < 1099511627776 ∧ Q.d x + c < Q.d y
      · have HE : Hid _ := HNX.out.trans (HY.out (HSK.out.2 hsk))
        simp only [Int.toNat_natCast] at HE
        obtain ⟨k1, k2⟩ := hsk
        have hne : (Q.d x == 1099511627776) = false := by simp; omega
        have hle : ¬ (Q.d y ≤ Q.d x + c) := by omega
        clear HSK HY HN HNX
        go_quiet (fail)
        have S10 : Hid _ := S9.out.kept (bdrewN (Below.refl _ _) nq)
        have Y10 : Hid _ := Y9.out.below (bdrewN (Below.refl _ _) nq)
        clear y0 y1 y2 s0 s1 c1 c2 f2 c3 f3 S9 Y9
        generalize W9.drewN nq = W10 at *
        obtain ⟨y0, y1, y2⟩ := Y10.out
        obtain ⟨s0, s1⟩ := S10.out.cells
        obtain ⟨c1, _⟩ := S10.out.dist.cell x hxN
        obtain ⟨c2, f2⟩ := S10.out.dist.cell y hyN
        go_wp2_with fail
        go_cut [7] (fun z wc => z = .pointer (some ⟨Y, 0, none⟩) ∧ Sb w0 F B G A N (upd Q.d y (Q.d x + c)) Q.a wc ∧ Box3 wc Y x y (.int .i64 c))
        case first =>
          go_big_region
          go_wp2_with fail
          go_meet
          exact ⟨rfl, (S10.out.putG y (Q.d x + c)).drew, (Y10.out.put (o := y) (u := .int .i64 (Q.d x + c)) (show Y ≠ G by have := YG.out; omega)).below (Below.drew (Below.refl _ _))⟩
        case rest =>
          obtain ⟨rfl, hs11, hy11⟩ := hcut
          have S11 : Hid _ := hs11
          have Y11 : Hid _ := hy11
          clear y0 y1 y2 s0 s1 c1 c2 f2 S10 Y10 hs11 hy11
          obtain ⟨y0, y1, y2⟩ := Y11.out
          obtain ⟨s0, s1⟩ := S11.out.cells
          obtain ⟨c3, f3⟩ := S11.out.ahead.cell y hyN
          go_wp2_with fail
          go_cut [7] (fun z wc => z = .pointer (some ⟨Y, 0, none⟩) ∧ Sb w0 F B G A N (upd Q.d y (Q.d x + c)) (upd Q.a y (x : Int)) wc ∧ Box3 wc Y x y (.int .i64 c))
          case first =>
            go_big_region
            go_wp2_with fail
            go_meet
            exact ⟨rfl, (S11.out.putA y (x : Int)).drew, (Y11.out.put (o := y) (u := .int .i64 (x : Int)) (show Y ≠ A by have := YA.out; omega)).below (Below.drew (Below.refl _ _))⟩
          case rest =>
            obtain ⟨rfl, hs12, hy12⟩ := hcut
            have S12 : Hid _ := hs12
            clear y0 y1 y2 s0 s1 c3 f3 S11 Y11 hs12
            obtain ⟨y0, y1, y2⟩ := hy12
            go_wp2_with fail
            go_roundw
            case rel => exact ⟨i + 1, by go_num, by omega, by rw [HE.out], by rw [HE.out]; exact S12.out⟩
            case measure => simp [intOf]; omega
      · have HE : Hid _ := HNX.out.trans (HN.out (fun h => hsk (HSK.out.1 h)))
        clear HSK HY HN HNX
        by_cases k1 : Q.d x = 1099511627776
        · have hne : (Q.d x == 1099511627776) = true := by simp [k1]
          clear hsk k1
          go_quiet (fail)
          have S10 : Hid _ := S9.out.kept (bdrewN (Below.refl _ _) nq)
          go_wp2_with fail
          go_roundw
          case rel => exact ⟨i + 1, by go_num, by omega, by rw [HE.out], by rw [HE.out]; exact S10.out⟩
          case measure => simp [intOf]; omega
        · have hne : (Q.d x == 1099511627776) = false := by simp [k1]
          have hle : Q.d y ≤ Q.d x + c := by
            by_cases h : Q.d x + c < Q.d y
            · exact absurd ⟨by omega, h⟩ hsk
            · omega
          clear hsk k1
          go_quiet (fail)
          have S10 : Hid _ := S9.out.kept (bdrewN (Below.refl _ _) nq)
          go_wp2_with fail
          go_roundw
          case rel => exact ⟨i + 1, by go_num, by omega, by rw [HE.out], by rw [HE.out]; exact S10.out⟩
          case measure => simp [intOf]; omega
    · have hie : i = es.length := by omega
      subst hie
      go_wp2_with fail
      go_ret
      exact ⟨rfl, ST.out⟩
end Go.Proofs.Ytlmichnnpameeaa
