/-
  The law felllaw.NetChecks, walked.
-/
import Derived.Test.YtfgdcglgloahfacNC
import Derived.Test.YtfgdcglgloahfacIE
import Derived.Deep.DeepCutAuto
import Derived.Deep.LoopGhost
namespace Go.Proofs.Ytfgdcglgloahfac.NChecks
open Go.RowKit
open Nm

set_option maxRecDepth 100000 in
set_option maxHeartbeats 8000000 in
theorem walk (n x : Int) (v : Value) (es : List E) (w : World) (hv : SlE w v es) (hlen : es.length ≤ 9223372036854775807) :
    Calls Try.prog 4 #[.agg #[.int .i64 n, v], .int .i64 x] w fun e w' => e = .returned (.bool true) ∧ Below w.heap.size w w' := by
  obtain ⟨a0, c0, rfl⟩ := hv.val
  have HV : Hid _ := hv
  clear hv
  go_enter Try.func4, Try.ntmps4
  go_upto_region 1 with fail
  have P0 : Hid _ := box2_new w n (.slice a0 es.length c0) 34
  have B0 : Hid (Below w.heap.size w (w.alloc (.cells #[.int .i64 n, .slice a0 es.length c0] 34))) := balloc (Below.refl _ _) _
  generalize w.alloc (.cells #[.int .i64 n, .slice a0 es.length c0] 34) = W0 at *
  have V0 : Hid _ := HV.out.below B0.out
  go_cut [22] (fun vf wc => vf = .bool false ∧ Below W0.heap.size W0 wc)
  case first =>
    have KP : Hid (∀ w', Below W0.heap.size W0 w' → w'.cell? ⟨w.heap.size, 0, none⟩ = some (.int .i64 n) ∧ w'.cell? ⟨w.heap.size, 1, none⟩ = some (.slice a0 es.length c0)) := fun w' hb => ⟨kept hb P0.out.g0, kept hb P0.out.g1⟩
    obtain ⟨p0, p1⟩ := P0.out
    go_region_held3 (fun w' => w'.cell? ⟨w.heap.size, 0, none⟩ = some (.int .i64 n) ∧ w'.cell? ⟨w.heap.size, 1, none⟩ = some (.slice a0 es.length c0)) (first | go_keep | exact KP.out _ BB.out)
      (first
       | (go_at_call 14; refine (ncheck_any n _ es _ ?_ hlen).mono ?_; (first | exact V0.out.below (Below.drew (Below.refl _ _)) | exact V0.out.below BB.out); rintro e w4 ⟨rfl, b4⟩; have BB : Hid (Below W0.heap.size W0 w4) := (by first | exact bthen (Below.drew (Below.refl _ _)) b4 | exact bthen BB.out b4))
       | (go_at_call 15; refine (rnet_any n _ es _ ?_ hlen).mono ?_; (first | exact V0.out.below (Below.drew (Below.refl _ _)) | exact V0.out.below BB.out); rintro e w4 ⟨rfl, b4⟩; have BB : Hid (Below W0.heap.size W0 w4) := (by first | exact bthen (Below.drew (Below.refl _ _)) b4 | exact bthen BB.out b4))
       | (go_at_call 16; refine (npos_any n _ es _ ?_ hlen).mono ?_; (first | exact V0.out.below (Below.drew (Below.refl _ _)) | exact V0.out.below BB.out); rintro e w4 ⟨rfl, b4⟩; have BB : Hid (Below W0.heap.size W0 w4) := (by first | exact bthen (Below.drew (Below.refl _ _)) b4 | exact bthen BB.out b4))
       | (go_at_call 17; refine (rpos_any n _ es _ ?_ hlen).mono ?_; (first | exact V0.out.below (Below.drew (Below.refl _ _)) | exact V0.out.below BB.out); rintro e w4 ⟨rfl, b4⟩; have BB : Hid (Below W0.heap.size W0 w4) := (by first | exact bthen (Below.drew (Below.refl _ _)) b4 | exact bthen BB.out b4))
       | fail)
    all_goals
      go_wp2_with fail
      go_meet
      exact ⟨rfl, BB.out⟩
  case rest =>
    obtain ⟨rfl, hbc⟩ := hcut
    have P1 : Hid _ := P0.out.below hbc
    have B1 : Hid (Below w.heap.size w wc) := bthen B0.out hbc
    have V1 : Hid _ := V0.out.below hbc
    clear hbc P0 B0 V0
    obtain ⟨p0, p1⟩ := P1.out
    by_cases hc : nck n es = 0
    · have HC : Hid _ := hc
      have hg := nck_zero.1 hc
      have HG : Hid _ := hg
      clear hc hg
      cases hx : plc n x
      · have HX : Hid _ := hx
        have hxn : ¬ (0 ≤ x ∧ x < n) := of_decide_eq_false hx
        clear hx
        go_wp2_with fail
        refine (out_at n x _ es wc V1.out HG.out HX.out).mono ?_
        rintro e w2 ⟨rfl, b2⟩
        have P2 : Hid _ := P1.out.below b2
        have B2 : Hid (Below w.heap.size w w2) := bthen B1.out b2
        have V2 : Hid _ := V1.out.below b2
        clear p0 p1 b2
        obtain ⟨p0, p1⟩ := P2.out
        go_wp2_with fail
        refine (rnet_any n _ es w2 V2.out hlen).mono ?_
        rintro e w3 ⟨rfl, b3⟩
        have B3 : Hid (Below w.heap.size w w3) := bthen B2.out b3
        rw [HC.out]
        clear p0 p1
        obtain ⟨p0, p1⟩ := P2.out.below b3
        clear b3
        by_cases hx0 : x < 0
        · go_wp2_with fail
          go_ret
          exact ⟨rfl, B3.out⟩
        · have hx1 : n ≤ x := by omega
          go_wp2_with fail
          go_ret
          exact ⟨rfl, B3.out⟩
      · have HX : Hid _ := hx
        have hxn : 0 ≤ x ∧ x < n := of_decide_eq_true hx
        clear hx
        obtain ⟨hx0, hx1⟩ := hxn
        have hl6 := HG.out.len
        go_wp2_with fail
        refine (out_yes n x _ es wc V1.out HG.out HX.out).mono ?_
        rintro e w2 ⟨u, rfl, i2, b2⟩
        obtain ⟨au, cu, rfl⟩ := i2.sl.val
        have I2 : Hid _ := i2.sl
        have P2 : Hid _ := P1.out.below b2
        have B2 : Hid (Below w.heap.size w w2) := bthen B1.out b2
        have V2 : Hid _ := V1.out.below b2
        clear p0 p1 b2 i2
        obtain ⟨p0, p1⟩ := P2.out
        go_wp2_with fail
        refine (rnet_any n _ es w2 V2.out hlen).mono ?_
        rintro e w3 ⟨rfl, b3⟩
        have B3 : Hid (Below w.heap.size w w3) := bthen B2.out b3
        have I3 : Hid _ := I2.out.below b3
        have V3 : Hid _ := V2.out.below b3
        rw [HC.out]
        clear p0 p1
        obtain ⟨p0, p1⟩ := P2.out.below b3
        clear b3 P1 P2 B1 B2 V1 V2 I2
        go_wp2_with fail
        clear p0 p1
        go_loopw [56, 8] (fun z out wr => ∃ k : Nat, z = .int .i64 k ∧ k ≤ es.length ∧ Is wr w3.heap.size out (outs x es k) ∧ Below w3.heap.size w3 wr) (fun z _ _ => es.length - (intOf z).toNat)
        case atStart => exact ⟨0, rfl, Nat.zero_le _, Is.nil _ _, Below.refl _ _⟩
        case round =>
          obtain ⟨k, rfl, hk, ho, hb⟩ := hrel
          have HO : Hid _ := ho
          have HB : Hid (Below w3.heap.size w3 wr) := hb
          clear ho hb
          by_cases hlt : k < es.length
          · have hki : (k : Int) < (es.length : Int) := by omega
            obtain ⟨b, off, cap, hveq, hcl⟩ := (V3.out.below HB.out).some' (by omega)
            simp only [Value.slice.injEq] at hveq
            obtain ⟨rfl, -, rfl⟩ := hveq
            obtain ⟨d0, d1, d2⟩ := hcl k hlt
            clear hcl
            have HY : Hid _ := @outs_yes x es k
            have HN : Hid _ := @outs_no x es k
            obtain ⟨p, hp⟩ : ∃ p, at3 es k = p := ⟨_, rfl⟩
            rw [hp] at d0 d1 d2 HY HN
            clear hp
            obtain ⟨a, y, z⟩ := p
            simp only at d0 d1 d2 HY HN
            by_cases hax : a = x
            · have HE : Hid _ := HY.out hax
              have hab : (a == x) = true := by simp [hax]
              have hol := outs_length x es k
              have hown := HO.out.own
              have hwz := HB.out.size
              have HNW : Hid (((wr.alloc (.cells #[.int .i64 a, .int .i64 y, .int .i64 z] 38)).alloc (.cells #[.int .i64 k] 3)).heap[wr.heap.size + 1]? = some (.cells #[.int .i64 k] 3)) := new_at _ _ (by simp)
              obtain ⟨i0, hi0, hz0, hz1, hz2⟩ := info3_parts
              clear hax HY HN
              obtain ⟨l, hl⟩ : ∃ l, outs x es k = l := ⟨_, rfl⟩
              rw [hl] at hown HE hol
              clear hl HO
              go_wp2_with (at_builtin; refine wpList_append_lies _ rfl _ _ _ rfl w3.heap.size 3 i0 _ 1 8 Try.underlying22 hi0 hz0 hz1 hz2 rfl (by omega) u8 l.length (l.map (fun z => .int .i64 z)) rfl ((hown.alloc _).alloc _) ⟨wr.heap.size + 1, 0, none⟩ 1 1 [.int .i64 k] rfl rfl (World.news_of_block (cs := #[.int .i64 k]) (t := 3) (fr := (0, 0)) HNW.out) (by simp [Value.oneCell']) (by omega) (by unfold maxLen; omega) (by omega) (by simp; omega) (wr.heap.size + 1 + 1) (by simp) ?_; intro gg cap' w4 hown4 hgrow hat hlt4)
              have B4 : Hid (Below w3.heap.size w3 w4) := (balloc (balloc HB.out _) _).grown hgrow (by simp; omega) (fun k hk => (ownBlock_lt hown k hk).1)
              go_wp2_with fail
              go_roundw
              case rel => exact ⟨k + 1, by go_num, by omega, Is.next HE.out rfl hown4, B4.out⟩
              case measure => simp [intOf]; omega
            · have HE : Hid _ := HN.out hax
              have hab : (a == x) = false := by simp [hax]
              clear hax
              go_wp2_with fail
              go_roundw
              case rel => exact ⟨k + 1, by go_num, by omega, by rw [HE.out]; exact HO.out.below (balloc (Below.refl _ _) _), balloc HB.out _⟩
              case measure => simp [intOf]; omega
          · have hke : k = es.length := by omega
            subst hke
            have O5 : Hid _ := HO.out.sl
            have hol := outs_length x es es.length
            obtain ⟨a8, c8, rfl⟩ := O5.out.val
            go_wp2_with fail
            refine (iequal_yes _ _ _ wr (I3.out.below HB.out) O5.out (by omega)).mono ?_
            rintro e w5 ⟨rfl, b5⟩
            have B5 : Hid (Below w.heap.size w w5) := bthen (bthen B3.out HB.out) b5
            clear b5
            go_wp2_with fail
            go_ret
            exact ⟨rfl, B5.out⟩
    · have hz : (nck n es != 0) = true := by simp [hc]
      have hz2 : (nck n es == 0) = false := by simp [hc]
      have HC : Hid _ := hc
      clear hc
      go_wp2_with fail
      refine (out_bad n x _ es wc V1.out hlen HC.out).mono ?_
      rintro e w2 ⟨rfl, b2⟩
      have P2 : Hid _ := P1.out.below b2
      have B2 : Hid (Below w.heap.size w w2) := bthen B1.out b2
      have V2 : Hid _ := V1.out.below b2
      clear p0 p1 b2
      obtain ⟨p0, p1⟩ := P2.out
      go_wp2_with fail
      refine (rnet_any n _ es w2 V2.out hlen).mono ?_
      rintro e w3 ⟨rfl, b3⟩
      have B3 : Hid (Below w.heap.size w w3) := bthen B2.out b3
      clear p0 p1
      obtain ⟨p0, p1⟩ := P2.out.below b3
      clear b3
      go_wp2_with fail
      go_ret
      exact ⟨rfl, B3.out⟩
end Go.Proofs.Ytfgdcglgloahfac.NChecks
