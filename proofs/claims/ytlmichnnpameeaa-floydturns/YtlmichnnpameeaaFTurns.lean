/-
  The law fellkeep.FloydTurns, walked.
-/
import Derived.Test.YtlmichnnpameeaaFY
import Derived.Test.YtlmichnnpameeaaFp
import Derived.Test.YtlmichnnpameeaaND
import Derived.BigQuiet
namespace Go.Proofs.Ytlmichnnpameeaa.FTurns
open Go.RowKit
open Nm Wm Dm Bm Fm Fl
attribute [local go_sem ↓] Go.wp_at_zero Go.wp_at_succ

set_option maxRecDepth 100000 in
set_option maxHeartbeats 8000000 in
theorem walk_net (n i j : Int) (v : Value) (es : List E) (w : World) (hv : SlE w v es) (hlen : es.length ≤ 9223372036854775807) (hc : nck n es ≠ 0) :
    Calls Try.prog 9 #[.agg #[.int .i64 n, v], .int .i64 i, .int .i64 j] w fun e w' => e = .returned (.bool true) ∧ Below w.heap.size w w' := by
  obtain ⟨a0, c0, rfl⟩ := hv.val
  have HV : Hid _ := hv
  have HC : Hid _ := hc
  have hz : (nck n es != 0) = true := by simp [hc]
  clear hv hc
  go_enter Try.func9, Try.ntmps9
  go_wp2_with fail
  have P0 : Hid _ := box2_new w n (.slice a0 es.length c0) 24
  have B0 : Hid (Below w.heap.size w (w.alloc (.cells #[.int .i64 n, .slice a0 es.length c0] 24))) := balloc (Below.refl _ _) _
  generalize w.alloc (.cells #[.int .i64 n, .slice a0 es.length c0] 24) = W0 at *
  refine (two_any W0).mono ?_
  rintro e w1 ⟨X1, rfl, e1, b1⟩
  have E1 : Hid _ := e1
  have P1 : Hid _ := P0.out.below b1
  have B1 : Hid (Below w.heap.size w w1) := bthen B0.out b1
  clear e1 b1 P0 B0
  go_wp2_with fail
  refine (freach_yes 2 _ _ w1 E1.out rnt_two).mono ?_
  rintro e w2 ⟨R2, Gs2, rfl, t2, b2⟩
  have T2 : Hid _ := t2
  have P2 : Hid _ := P1.out.below b2
  have B2 : Hid (Below w.heap.size w w2) := bthen B1.out b2
  clear t2 b2 P1 B1 E1
  go_wp2_with fail
  have L3 : Hid _ := lit_twob w2 true true false true
  have b3 : Below w2.heap.size w2 (((w2.alloc (.cells #[.bool true, .bool true] 4)).alloc (.cells #[.bool false, .bool true] 4)).alloc (.cells #[.slice (some ⟨w2.heap.size, 0, none⟩) 2 2, .slice (some ⟨w2.heap.size + 1, 0, none⟩) 2 2] 36)) := balloc (balloc (balloc (Below.refl _ _) _) _) _
  generalize ((w2.alloc (.cells #[.bool true, .bool true] 4)).alloc (.cells #[.bool false, .bool true] 4)).alloc (.cells #[.slice (some ⟨w2.heap.size, 0, none⟩) 2 2, .slice (some ⟨w2.heap.size + 1, 0, none⟩) 2 2] 36) = W3 at *
  refine (bsameRows_yes R2 _ 2 Gs2 _ _ _ W3 (T2.out.below b3) L3.out two_reach (by omega)).mono ?_
  rintro e w4 ⟨rfl, b4⟩
  have P4 : Hid _ := (P2.out.below b3).below b4
  have B4 : Hid (Below w.heap.size w w4) := bthen (bthen B2.out b3) b4
  obtain ⟨p0, p1⟩ := P4.out
  clear b3 b4 P2 B2 T2 L3
  go_wp2_with fail
  clear p0 p1
  refine (turn_bad n _ es w4 (HV.out.below B4.out) hlen HC.out).mono ?_
  rintro e w5 ⟨rfl, b5⟩
  have B5 : Hid (Below w.heap.size w w5) := bthen B4.out b5
  clear b5
  go_wp2_with fail
  go_ret
  exact ⟨rfl, balloc B5.out _⟩
set_option maxRecDepth 100000 in
set_option maxHeartbeats 8000000 in
theorem walk_no (N : Nat) (i j : Int) (v : Value) (es : List E) (w : World) (hv : SlE w v es) (hb : Rnt N es) (hs : (rns es (fun _ => 0) N).s ≠ -1) :
    Calls Try.prog 9 #[.agg #[.int .i64 N, v], .int .i64 i, .int .i64 j] w fun e w' => e = .returned (.bool true) ∧ Below w.heap.size w w' := by
  obtain ⟨a0, c0, rfl⟩ := hv.val
  have HV : Hid _ := hv
  have HB : Hid _ := hb
  have HBT : Hid _ := rnt_turn hb
  have HS : Hid _ := hs
  have HST : Hid _ := fun h => hs ((good_turn hb).1 h)
  have hn64 := hb.n64
  have hn1 := hb.n1
  clear hv hb hs
  go_enter Try.func9, Try.ntmps9
  go_wp2_with fail
  have P0 : Hid _ := box2_new w (N : Int) (.slice a0 es.length c0) 24
  have B0 : Hid (Below w.heap.size w (w.alloc (.cells #[.int .i64 N, .slice a0 es.length c0] 24))) := balloc (Below.refl _ _) _
  generalize w.alloc (.cells #[.int .i64 N, .slice a0 es.length c0] 24) = W0 at *
  refine (two_any W0).mono ?_
  rintro e w1 ⟨X1, rfl, e1, b1⟩
  have E1 : Hid _ := e1
  have P1 : Hid _ := P0.out.below b1
  have B1 : Hid (Below w.heap.size w w1) := bthen B0.out b1
  clear e1 b1 P0 B0
  go_wp2_with fail
  refine (freach_yes 2 _ _ w1 E1.out rnt_two).mono ?_
  rintro e w2 ⟨R2, Gs2, rfl, t2, b2⟩
  have T2 : Hid _ := t2
  have P2 : Hid _ := P1.out.below b2
  have B2 : Hid (Below w.heap.size w w2) := bthen B1.out b2
  clear t2 b2 P1 B1 E1
  go_wp2_with fail
  have L3 : Hid _ := lit_twob w2 true true false true
  have b3 : Below w2.heap.size w2 (((w2.alloc (.cells #[.bool true, .bool true] 4)).alloc (.cells #[.bool false, .bool true] 4)).alloc (.cells #[.slice (some ⟨w2.heap.size, 0, none⟩) 2 2, .slice (some ⟨w2.heap.size + 1, 0, none⟩) 2 2] 36)) := balloc (balloc (balloc (Below.refl _ _) _) _) _
  generalize ((w2.alloc (.cells #[.bool true, .bool true] 4)).alloc (.cells #[.bool false, .bool true] 4)).alloc (.cells #[.slice (some ⟨w2.heap.size, 0, none⟩) 2 2, .slice (some ⟨w2.heap.size + 1, 0, none⟩) 2 2] 36) = W3 at *
  refine (bsameRows_yes R2 _ 2 Gs2 _ _ _ W3 (T2.out.below b3) L3.out two_reach (by omega)).mono ?_
  rintro e w4 ⟨rfl, b4⟩
  have P4 : Hid _ := (P2.out.below b3).below b4
  have B4 : Hid (Below w.heap.size w w4) := bthen (bthen B2.out b3) b4
  obtain ⟨p0, p1⟩ := P4.out
  clear b3 b4 P2 B2 T2 L3
  go_wp2_with fail
  clear p0 p1
  refine (turn_yes N _ es w4 (HV.out.below B4.out) HB.out.gn).mono ?_
  rintro e w5 ⟨u, rfl, e5, b5⟩
  obtain ⟨L, hL⟩ : ∃ L, es.map trn = L := ⟨_, rfl⟩
  have HL : Hid _ := hL
  rw [hL] at e5 HBT HST
  clear hL
  have HT : Hid _ := e5.sl
  have P5 : Hid _ := P4.out.below b5
  have B5 : Hid (Below w.heap.size w w5) := bthen B4.out b5
  obtain ⟨a1, c1, rfl⟩ := HT.out.val
  have P6 : Hid _ := P5.out.below (balloc (Below.refl _ _) (.cells #[.int .i64 N, .slice a1 L.length c1] 24))
  have Q6 : Hid _ := box2_new w5 (N : Int) (.slice a1 L.length c1) 24
  have H6 : Hid _ := HT.out.below (balloc (Below.refl _ _) (.cells #[.int .i64 N, .slice a1 L.length c1] 24))
  have B6 : Hid (Below w.heap.size w (w5.alloc (.cells #[.int .i64 N, .slice a1 L.length c1] 24))) := balloc B5.out _
  obtain ⟨p0, p1⟩ := P6.out
  clear b5 e5 P4 B4 HT P5 B5
  go_wp2_with fail
  obtain ⟨K, hK⟩ : ∃ K, w5.heap.size = K := ⟨_, rfl⟩
  rw [hK] at Q6 ⊢
  clear hK
  generalize w5.alloc (.cells #[.int .i64 N, .slice a1 L.length c1] 24) = w6 at *
  go_quiet (first
    | (go_at_call 24; exact Calls.quiet_of_same (within_any _ N _ hn1 hn64)))
  obtain ⟨x, hx⟩ : ∃ x, wi i N = x := ⟨_, rfl⟩
  obtain ⟨y, hy⟩ : ∃ y, wi j N = y := ⟨_, rfl⟩
  have hxN : x < N := by rw [← hx]; exact wi_lt i hn1
  have hyN : y < N := by rw [← hy]; exact wi_lt j hn1
  rw [hx, hy]
  clear hx hy p0 p1
  have P8 : Hid _ := P6.out.below (bdrewN (Below.refl _ _) nq)
  have Q8 : Hid _ := Q6.out.below (bdrewN (Below.refl _ _) nq)
  have H8 : Hid _ := H6.out.below (bdrewN (Below.refl _ _) nq)
  have B8 : Hid (Below w.heap.size w (w6.drewN nq)) := bdrewN B6.out nq
  clear P6 Q6 H6 B6
  generalize w6.drewN nq = w8 at *
  obtain ⟨p0, p1⟩ := P8.out
  have hxi : (x : Int) < (N : Int) := by omega
  have hyi : (y : Int) < (N : Int) := by omega
  go_wp2_with fail
  clear p0 p1
  -- All of both
  refine (fall_no N _ es w8 (HV.out.below B8.out) HB.out HS.out).mono ?_
  rintro e w9 ⟨rfl, b9⟩
  have P9 : Hid _ := P8.out.below b9
  have Q9 : Hid _ := Q8.out.below b9
  have H9 : Hid _ := H8.out.below b9
  have B9 : Hid (Below w.heap.size w w9) := bthen B8.out b9
  obtain ⟨p0, p1⟩ := P9.out
  obtain ⟨q0, q1⟩ := Q9.out
  clear b9
  go_wp2_with fail
  clear q0 q1
  clear p0 p1
  refine (fall_no N _ L w9 H9.out HBT.out HST.out).mono ?_
  rintro e w10 ⟨rfl, b10⟩
  have P10 : Hid _ := P9.out.below b10
  have Q10 : Hid _ := Q9.out.below b10
  have H10 : Hid _ := H9.out.below b10
  have B10 : Hid (Below w.heap.size w w10) := bthen B9.out b10
  obtain ⟨p0, p1⟩ := P10.out
  obtain ⟨q0, q1⟩ := Q10.out
  clear b10
  go_wp2_with fail
  clear q0 q1
  clear p0 p1
  go_quiet (fail)
  have P20 : Hid _ := P10.out.below (bdrewN (Below.refl _ _) nq)
  have Q20 : Hid _ := Q10.out.below (bdrewN (Below.refl _ _) nq)
  have H20 : Hid _ := H10.out.below (bdrewN (Below.refl _ _) nq)
  have B20 : Hid (Below w.heap.size w (w10.drewN nq)) := bdrewN B10.out nq
  generalize w10.drewN nq = w20 at *
  obtain ⟨p0, p1⟩ := P20.out
  go_wp2_with fail
  -- Wide of both
  clear p0 p1
  refine (fwide_yes N _ es w20 (HV.out.below B20.out) HB.out).mono ?_
  rintro e w11 ⟨R3, G3, rfl, t11, b11⟩
  have C11 : Hid _ := t11
  have P11 : Hid _ := P20.out.below b11
  have Q11 : Hid _ := Q20.out.below b11
  have H11 : Hid _ := H20.out.below b11
  have B11 : Hid (Below w.heap.size w w11) := bthen B20.out b11
  obtain ⟨p0, p1⟩ := P11.out
  obtain ⟨q0, q1⟩ := Q11.out
  clear b11
  go_wp2_with fail
  clear q0 q1
  clear p0 p1
  refine (fwide_yes N _ L w11 H11.out HBT.out).mono ?_
  rintro e w12 ⟨R4, G4, rfl, t12, b12⟩
  have D12 : Hid _ := t12
  have C12 : Hid _ := C11.out.below b12
  have P12 : Hid _ := P11.out.below b12
  have Q12 : Hid _ := Q11.out.below b12
  have H12 : Hid _ := H11.out.below b12
  have B12 : Hid (Below w.heap.size w w12) := bthen B11.out b12
  obtain ⟨p0, p1⟩ := P12.out
  obtain ⟨q0, q1⟩ := Q12.out
  clear b12
  go_wp2_with fail
  clear q0 q1
  clear p0 p1
  refine (freach_yes N _ es w12 (HV.out.below B12.out) HB.out).mono ?_
  rintro e w13 ⟨R5, G5, rfl, t13, b13⟩
  have X13 : Hid _ := t13
  have C13 : Hid _ := C12.out.below b13
  have D13 : Hid _ := D12.out.below b13
  have P13 : Hid _ := P12.out.below b13
  have Q13 : Hid _ := Q12.out.below b13
  have H13 : Hid _ := H12.out.below b13
  have B13 : Hid (Below w.heap.size w w13) := bthen B12.out b13
  obtain ⟨p0, p1⟩ := P13.out
  obtain ⟨q0, q1⟩ := Q13.out
  clear b13
  go_wp2_with fail
  clear q0 q1
  clear p0 p1
  refine (freach_yes N _ L w13 H13.out HBT.out).mono ?_
  rintro e w14 ⟨R6, G6, rfl, t14, b14⟩
  have Z14 : Hid _ := t14
  have X14 : Hid _ := X13.out.below b14
  have C14 : Hid _ := C13.out.below b14
  have D14 : Hid _ := D13.out.below b14
  have P14 : Hid _ := P13.out.below b14
  have Q14 : Hid _ := Q13.out.below b14
  have H14 : Hid _ := H13.out.below b14
  have B14 : Hid (Below w.heap.size w w14) := bthen B13.out b14
  obtain ⟨p0, p1⟩ := P14.out
  obtain ⟨q0, q1⟩ := Q14.out
  clear b14
  go_wp2_with fail
  clear q0 q1
  clear p0 p1
  have s1 := C14.out.head x hxN
  have s2 := D14.out.head y hyN
  have s3 := X14.out.head x hxN
  have s4 := Z14.out.head y hyN
  obtain ⟨v1, -⟩ := (C14.out.row x hxN).cell y hyN
  obtain ⟨v2, -⟩ := (D14.out.row y hyN).cell x hxN
  obtain ⟨v3, -⟩ := (X14.out.row x hxN).cell y hyN
  obtain ⟨v4, -⟩ := (Z14.out.row y hyN).cell x hxN
  rw [← HL.out, fww_turn] at v2
  rw [← HL.out, fwb_turn] at v4
  clear HV HB HBT HS HST HL
  generalize fww es N x y = d1 at *
  generalize fwb (fun _ => true) es N x y = r1 at *
  go_quiet (fail)
  go_wp2_with fail
  go_ret
  exact ⟨rfl, bdrewN B14.out _⟩
set_option maxRecDepth 100000 in
set_option maxHeartbeats 8000000 in
theorem walk_yes (N : Nat) (i j : Int) (v : Value) (es : List E) (w : World) (hv : SlE w v es) (hb : Rnt N es) (hs : (rns es (fun _ => 0) N).s = -1) :
    Calls Try.prog 9 #[.agg #[.int .i64 N, v], .int .i64 i, .int .i64 j] w fun e w' => e = .returned (.bool true) ∧ Below w.heap.size w w' := by
  obtain ⟨a0, c0, rfl⟩ := hv.val
  have HV : Hid _ := hv
  have HB : Hid _ := hb
  have HBT : Hid _ := rnt_turn hb
  have HS : Hid _ := hs
  have HST : Hid _ := (good_turn hb).2 hs
  have hn64 := hb.n64
  have hn1 := hb.n1
  clear hv hb hs
  go_enter Try.func9, Try.ntmps9
  go_wp2_with fail
  have P0 : Hid _ := box2_new w (N : Int) (.slice a0 es.length c0) 24
  have B0 : Hid (Below w.heap.size w (w.alloc (.cells #[.int .i64 N, .slice a0 es.length c0] 24))) := balloc (Below.refl _ _) _
  generalize w.alloc (.cells #[.int .i64 N, .slice a0 es.length c0] 24) = W0 at *
  refine (two_any W0).mono ?_
  rintro e w1 ⟨X1, rfl, e1, b1⟩
  have E1 : Hid _ := e1
  have P1 : Hid _ := P0.out.below b1
  have B1 : Hid (Below w.heap.size w w1) := bthen B0.out b1
  clear e1 b1 P0 B0
  go_wp2_with fail
  refine (freach_yes 2 _ _ w1 E1.out rnt_two).mono ?_
  rintro e w2 ⟨R2, Gs2, rfl, t2, b2⟩
  have T2 : Hid _ := t2
  have P2 : Hid _ := P1.out.below b2
  have B2 : Hid (Below w.heap.size w w2) := bthen B1.out b2
  clear t2 b2 P1 B1 E1
  go_wp2_with fail
  have L3 : Hid _ := lit_twob w2 true true false true
  have b3 : Below w2.heap.size w2 (((w2.alloc (.cells #[.bool true, .bool true] 4)).alloc (.cells #[.bool false, .bool true] 4)).alloc (.cells #[.slice (some ⟨w2.heap.size, 0, none⟩) 2 2, .slice (some ⟨w2.heap.size + 1, 0, none⟩) 2 2] 36)) := balloc (balloc (balloc (Below.refl _ _) _) _) _
  generalize ((w2.alloc (.cells #[.bool true, .bool true] 4)).alloc (.cells #[.bool false, .bool true] 4)).alloc (.cells #[.slice (some ⟨w2.heap.size, 0, none⟩) 2 2, .slice (some ⟨w2.heap.size + 1, 0, none⟩) 2 2] 36) = W3 at *
  refine (bsameRows_yes R2 _ 2 Gs2 _ _ _ W3 (T2.out.below b3) L3.out two_reach (by omega)).mono ?_
  rintro e w4 ⟨rfl, b4⟩
  have P4 : Hid _ := (P2.out.below b3).below b4
  have B4 : Hid (Below w.heap.size w w4) := bthen (bthen B2.out b3) b4
  obtain ⟨p0, p1⟩ := P4.out
  clear b3 b4 P2 B2 T2 L3
  go_wp2_with fail
  clear p0 p1
  refine (turn_yes N _ es w4 (HV.out.below B4.out) HB.out.gn).mono ?_
  rintro e w5 ⟨u, rfl, e5, b5⟩
  obtain ⟨L, hL⟩ : ∃ L, es.map trn = L := ⟨_, rfl⟩
  have HL : Hid _ := hL
  rw [hL] at e5 HBT HST
  clear hL
  have HT : Hid _ := e5.sl
  have P5 : Hid _ := P4.out.below b5
  have B5 : Hid (Below w.heap.size w w5) := bthen B4.out b5
  obtain ⟨a1, c1, rfl⟩ := HT.out.val
  have P6 : Hid _ := P5.out.below (balloc (Below.refl _ _) (.cells #[.int .i64 N, .slice a1 L.length c1] 24))
  have Q6 : Hid _ := box2_new w5 (N : Int) (.slice a1 L.length c1) 24
  have H6 : Hid _ := HT.out.below (balloc (Below.refl _ _) (.cells #[.int .i64 N, .slice a1 L.length c1] 24))
  have B6 : Hid (Below w.heap.size w (w5.alloc (.cells #[.int .i64 N, .slice a1 L.length c1] 24))) := balloc B5.out _
  obtain ⟨p0, p1⟩ := P6.out
  clear b5 e5 P4 B4 HT P5 B5
  go_wp2_with fail
  obtain ⟨K, hK⟩ : ∃ K, w5.heap.size = K := ⟨_, rfl⟩
  rw [hK] at Q6 ⊢
  clear hK
  generalize w5.alloc (.cells #[.int .i64 N, .slice a1 L.length c1] 24) = w6 at *
  go_quiet (first
    | (go_at_call 24; exact Calls.quiet_of_same (within_any _ N _ hn1 hn64)))
  obtain ⟨x, hx⟩ : ∃ x, wi i N = x := ⟨_, rfl⟩
  obtain ⟨y, hy⟩ : ∃ y, wi j N = y := ⟨_, rfl⟩
  have hxN : x < N := by rw [← hx]; exact wi_lt i hn1
  have hyN : y < N := by rw [← hy]; exact wi_lt j hn1
  rw [hx, hy]
  clear hx hy p0 p1
  have P8 : Hid _ := P6.out.below (bdrewN (Below.refl _ _) nq)
  have Q8 : Hid _ := Q6.out.below (bdrewN (Below.refl _ _) nq)
  have H8 : Hid _ := H6.out.below (bdrewN (Below.refl _ _) nq)
  have B8 : Hid (Below w.heap.size w (w6.drewN nq)) := bdrewN B6.out nq
  clear P6 Q6 H6 B6
  generalize w6.drewN nq = w8 at *
  obtain ⟨p0, p1⟩ := P8.out
  have hxi : (x : Int) < (N : Int) := by omega
  have hyi : (y : Int) < (N : Int) := by omega
  go_wp2_with fail
  clear p0 p1
  -- All of both
  refine (fall_tv N _ es w8 (HV.out.below B8.out) HB.out HS.out).mono ?_
  rintro e w9 ⟨R1, G1, rfl, t9, b9⟩
  have A9 : Hid _ := t9
  have P9 : Hid _ := P8.out.below b9
  have Q9 : Hid _ := Q8.out.below b9
  have H9 : Hid _ := H8.out.below b9
  have B9 : Hid (Below w.heap.size w w9) := bthen B8.out b9
  obtain ⟨p0, p1⟩ := P9.out
  obtain ⟨q0, q1⟩ := Q9.out
  clear b9
  go_wp2_with fail
  clear q0 q1
  clear p0 p1
  refine (fall_tv N _ L w9 H9.out HBT.out HST.out).mono ?_
  rintro e w10 ⟨R2', G2, rfl, t10, b10⟩
  have A10 : Hid _ := A9.out.below b10
  have E10 : Hid _ := t10
  have a1' := A10.out.head x hxN
  have e1' := E10.out.head y hyN
  obtain ⟨a2', -⟩ := (A10.out.row x hxN).cell y hyN
  obtain ⟨e2', -⟩ := (E10.out.row y hyN).cell x hxN
  have HEQ : Hid _ := spr_turn HB.out HS.out hxN hyN
  rw [HL.out] at HEQ
  rw [← HEQ.out] at e2'
  generalize spr es (Dm.start x) (N - 1) y = dd at *
  have P10 : Hid _ := P9.out.below b10
  have Q10 : Hid _ := Q9.out.below b10
  have H10 : Hid _ := H9.out.below b10
  have B10 : Hid (Below w.heap.size w w10) := bthen B9.out b10
  obtain ⟨p0, p1⟩ := P10.out
  obtain ⟨q0, q1⟩ := Q10.out
  clear b10
  go_wp2_with fail
  clear q0 q1
  clear p0 p1
  go_quiet (fail)
  have P20 : Hid _ := P10.out.below (bdrewN (Below.refl _ _) nq)
  have Q20 : Hid _ := Q10.out.below (bdrewN (Below.refl _ _) nq)
  have H20 : Hid _ := H10.out.below (bdrewN (Below.refl _ _) nq)
  have B20 : Hid (Below w.heap.size w (w10.drewN nq)) := bdrewN B10.out nq
  generalize w10.drewN nq = w20 at *
  obtain ⟨p0, p1⟩ := P20.out
  go_wp2_with fail
  -- Wide of both
  clear p0 p1
  refine (fwide_yes N _ es w20 (HV.out.below B20.out) HB.out).mono ?_
  rintro e w11 ⟨R3, G3, rfl, t11, b11⟩
  have C11 : Hid _ := t11
  have P11 : Hid _ := P20.out.below b11
  have Q11 : Hid _ := Q20.out.below b11
  have H11 : Hid _ := H20.out.below b11
  have B11 : Hid (Below w.heap.size w w11) := bthen B20.out b11
  obtain ⟨p0, p1⟩ := P11.out
  obtain ⟨q0, q1⟩ := Q11.out
  clear b11
  go_wp2_with fail
  clear q0 q1
  clear p0 p1
  refine (fwide_yes N _ L w11 H11.out HBT.out).mono ?_
  rintro e w12 ⟨R4, G4, rfl, t12, b12⟩
  have D12 : Hid _ := t12
  have C12 : Hid _ := C11.out.below b12
  have P12 : Hid _ := P11.out.below b12
  have Q12 : Hid _ := Q11.out.below b12
  have H12 : Hid _ := H11.out.below b12
  have B12 : Hid (Below w.heap.size w w12) := bthen B11.out b12
  obtain ⟨p0, p1⟩ := P12.out
  obtain ⟨q0, q1⟩ := Q12.out
  clear b12
  go_wp2_with fail
  clear q0 q1
  clear p0 p1
  refine (freach_yes N _ es w12 (HV.out.below B12.out) HB.out).mono ?_
  rintro e w13 ⟨R5, G5, rfl, t13, b13⟩
  have X13 : Hid _ := t13
  have C13 : Hid _ := C12.out.below b13
  have D13 : Hid _ := D12.out.below b13
  have P13 : Hid _ := P12.out.below b13
  have Q13 : Hid _ := Q12.out.below b13
  have H13 : Hid _ := H12.out.below b13
  have B13 : Hid (Below w.heap.size w w13) := bthen B12.out b13
  obtain ⟨p0, p1⟩ := P13.out
  obtain ⟨q0, q1⟩ := Q13.out
  clear b13
  go_wp2_with fail
  clear q0 q1
  clear p0 p1
  refine (freach_yes N _ L w13 H13.out HBT.out).mono ?_
  rintro e w14 ⟨R6, G6, rfl, t14, b14⟩
  have Z14 : Hid _ := t14
  have X14 : Hid _ := X13.out.below b14
  have C14 : Hid _ := C13.out.below b14
  have D14 : Hid _ := D13.out.below b14
  have P14 : Hid _ := P13.out.below b14
  have Q14 : Hid _ := Q13.out.below b14
  have H14 : Hid _ := H13.out.below b14
  have B14 : Hid (Below w.heap.size w w14) := bthen B13.out b14
  obtain ⟨p0, p1⟩ := P14.out
  obtain ⟨q0, q1⟩ := Q14.out
  clear b14
  go_wp2_with fail
  clear q0 q1
  clear p0 p1
  have s1 := C14.out.head x hxN
  have s2 := D14.out.head y hyN
  have s3 := X14.out.head x hxN
  have s4 := Z14.out.head y hyN
  obtain ⟨v1, -⟩ := (C14.out.row x hxN).cell y hyN
  obtain ⟨v2, -⟩ := (D14.out.row y hyN).cell x hxN
  obtain ⟨v3, -⟩ := (X14.out.row x hxN).cell y hyN
  obtain ⟨v4, -⟩ := (Z14.out.row y hyN).cell x hxN
  rw [← HL.out, fww_turn] at v2
  rw [← HL.out, fwb_turn] at v4
  clear HV HB HBT HS HST HL
  generalize fww es N x y = d1 at *
  generalize fwb (fun _ => true) es N x y = r1 at *
  go_quiet (fail)
  go_wp2_with fail
  go_ret
  exact ⟨rfl, bdrewN B14.out _⟩
theorem walk (n i j : Int) (v : Value) (es : List E) (w : World) (hv : SlE w v es) (hlen : es.length ≤ 9223372036854775807) :
    Calls Try.prog 9 #[.agg #[.int .i64 n, v], .int .i64 i, .int .i64 j] w fun e w' => e = .returned (.bool true) ∧ Below w.heap.size w w' := by
  by_cases hc : nck n es = 0
  · obtain ⟨hb, hn⟩ := bn_of hc
    rw [← hn]
    by_cases hs : (rns es (fun _ => 0) n.toNat).s = -1
    · exact walk_yes n.toNat i j v es w hv hb hs
    · exact walk_no n.toNat i j v es w hv hb hs
  · exact walk_net n i j v es w hv hlen hc
end Go.Proofs.Ytlmichnnpameeaa.FTurns
