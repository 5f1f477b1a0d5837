/-
  Contracts: ahead, back and Way.
-/
import Derived.Test.YtahijfljpjgdlaaYm
import Derived.Test.YtahijfljpjgdlaaRP
import Derived.Test.YtahijfljpjgdlaaNA
namespace Go.Proofs.Ytahijfljpjgdlaa
open Go.RowKit
open Nm Wm Dm Ym
attribute [local go_sem ↓] Go.wp_at_zero Go.wp_at_succ

set_option maxRecDepth 100000 in
set_option maxHeartbeats 8000000 in
theorem ahead_any (N t G : Nat) (v : Value) (es : List E) (d : Nat → Int) (w : World) (hv : SlE w v es) (hp : Pn N es) (hd : ∀ i, i < N → 0 ≤ d i ∧ d i ≤ 1099511627776) (hu : Ur w G N d) (ht : t < N) :
    Calls Try.prog 48 #[.agg #[.int .i64 N, v], .slice (some ⟨G, 0, none⟩) N N, .int .i64 t] w fun e w' => e = .returned (.int .i64 (ah N es d t)) ∧ Below w.heap.size w w' := by
  obtain ⟨a0, c0, rfl⟩ := hv.val
  have HV : Hid _ := hv
  have HP : Hid _ := hp
  have HU : Hid _ := hu
  have HD : Hid _ := hd
  have hlen := hp.len
  have hn64 := hp.n64
  clear hv hp hu hd
  go_enter Try.func48, Try.ntmps48
  go_wp2_with fail
  have P0 : Hid _ := box2_new w (N : Int) (.slice a0 es.length c0) 24
  have B0 : Hid (Below w.heap.size w (w.alloc (.cells #[.int .i64 N, .slice a0 es.length c0] 24))) := balloc (Below.refl _ _) _
  generalize w.alloc (.cells #[.int .i64 N, .slice a0 es.length c0] 24) = W0 at *
  go_loopw [15, 7] (fun z l wr => ∃ k : Nat, z = .int .i64 k ∧ k ≤ es.length ∧ l = .int .i64 (ahd N es d t k) ∧ Below W0.heap.size W0 wr) (fun z _ _ => es.length - (intOf z).toNat)
  case atStart => exact ⟨0, rfl, Nat.zero_le _, rfl, Below.refl _ _⟩
  case round =>
    obtain ⟨k, rfl, hk, rfl, hb⟩ := hrel
    have HB : Hid (Below W0.heap.size W0 wr) := hb
    clear hb
    by_cases hlt : k < es.length
    · have hki : (k : Int) < (es.length : Int) := by omega
      obtain ⟨b, off, cap, hveq, hc⟩ := ((HV.out.below B0.out).below HB.out).some' (by omega)
      simp only [Value.slice.injEq] at hveq
      obtain ⟨rfl, -, rfl⟩ := hveq
      obtain ⟨e0, e1, e2⟩ := hc k hlt
      clear hc
      have hok := HP.out.ok _ (mem_at hlt)
      have HY : Hid _ := @ahd_yes N es d t k
      have HN : Hid _ := @ahd_no N es d t k
      have HM : Hid _ := ahd_top N es d t k
      obtain ⟨p, hpe⟩ : ∃ p, at3 es k = p := ⟨_, rfl⟩
      rw [hpe] at e0 e1 e2 hok HY HN
      clear hpe
      obtain ⟨x, y, c⟩ := p
      simp only at e0 e1 e2 hok HY HN
      obtain ⟨ok1, ok2, ok3, ok4, ok5, ok6⟩ := hok
      obtain ⟨x, rfl⟩ := Int.eq_ofNat_of_zero_le ok1
      obtain ⟨y, rfl⟩ := Int.eq_ofNat_of_zero_le ok3
      simp only [Int.toNat_natCast] at HY HN
      have hxN : x < N := by omega
      have U1 : Hid _ := ((HU.out.below B0.out).below HB.out).below (balloc (Below.refl _ _) (.cells #[.int .i64 x, .int .i64 y, .int .i64 c] 41))
      have B1 : Hid (Below W0.heap.size W0 (wr.alloc (.cells #[.int .i64 x, .int .i64 y, .int .i64 c] 41))) := balloc HB.out _
      obtain ⟨y0, y1, y2⟩ := box3_new wr x y (.int .i64 c) 41
      obtain ⟨c1, _⟩ := U1.out.cell x hxN
      obtain ⟨c2, _⟩ := U1.out.cell t ht
      have hx := HD.out x hxN
      have htd := HD.out t ht
      have htN : (t : Int) < (N : Int) := by omega
      go_wp2_with fail
      generalize wr.alloc (.cells #[.int .i64 x, .int .i64 y, .int .i64 c] 41) = W1 at *
      obtain ⟨Y, hY⟩ : ∃ Y, wr.heap.size = Y := ⟨_, rfl⟩
      rw [hY] at y0 y1 y2 ⊢
      clear hY e0 e1 e2
      generalize ahd N es d t k = m at *
      by_cases hyt : y = t
      · have hyb : ((y : Int) == (t : Int)) = true := by simp [hyt]
        by_cases hdd : d x + c = d t
        · have HF : Hid (ahd N es d t (k + 1) = min m x) := HY.out ⟨hyt, hdd⟩
          have hdb : (d x + c == d t) = true := by simp [hdd]
          have hmN := HM.out
          clear HY HN HM hyt hdd
          generalize d x = dx at *
          generalize d t = dt at *
          go_quiet (fail)
          rcases (show m < x ∨ x < m ∨ m = x by omega) with h | h | h
          · have HG : Hid (min m x = m) := Nat.min_eq_left (by omega)
            have hmx : (m : Int) < (x : Int) := by omega
            go_wp2_with fail
            go_roundw
            case rel => exact ⟨k + 1, by go_num, by omega, by rw [HF.out, HG.out], bdrewN B1.out _⟩
            case measure => simp [intOf]; omega
          · have HG : Hid (min m x = x) := Nat.min_eq_right (by omega)
            have hmx : (x : Int) < (m : Int) := by omega
            go_wp2_with fail
            go_roundw
            case rel => exact ⟨k + 1, by go_num, by omega, by rw [HF.out, HG.out], bdrewN B1.out _⟩
            case measure => simp [intOf]; omega
          · have HG : Hid (min m x = x) := Nat.min_eq_right (by omega)
            subst h
            go_wp2_with fail
            go_roundw
            case rel => exact ⟨k + 1, by go_num, by omega, by rw [HF.out, HG.out], bdrewN B1.out _⟩
            case measure => simp [intOf]; omega
        · have HF : Hid (ahd N es d t (k + 1) = m) := HN.out (fun h => hdd h.2)
          have hdb : (d x + c == d t) = false := by simp [hdd]
          clear HY HN HM hyt hdd
          generalize d x = dx at *
          generalize d t = dt at *
          go_quiet (fail)
          go_wp2_with fail
          go_roundw
          case rel => exact ⟨k + 1, by go_num, by omega, by rw [HF.out], bdrewN B1.out _⟩
          case measure => simp [intOf]; omega
      · have hyb : ((y : Int) == (t : Int)) = false := by simp; omega
        have HF : Hid (ahd N es d t (k + 1) = m) := HN.out (fun h => hyt h.1)
        clear HY HN HM hyt
        go_quiet (fail)
        go_wp2_with fail
        go_roundw
        case rel => exact ⟨k + 1, by go_num, by omega, by rw [HF.out], bdrewN B1.out _⟩
        case measure => simp [intOf]; omega
    · have hke : k = es.length := by omega
      subst hke
      go_wp2_with fail
      go_ret
      exact ⟨rfl, bthen B0.out HB.out⟩
end Go.Proofs.Ytahijfljpjgdlaa
