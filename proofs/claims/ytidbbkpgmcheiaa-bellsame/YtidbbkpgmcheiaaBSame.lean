/-
  The law fellkeep.BellSame, walked.
-/
import Derived.Test.YtidbbkpgmcheiaaTW
import Derived.Test.YtidbbkpgmcheiaaDL
namespace Go.Proofs.Ytidbbkpgmcheiaa.BSame
open Go.RowKit
open Nm Wm Dm Bm Zm
attribute [local go_sem ↓] Go.wp_at_zero Go.wp_at_succ

set_option maxRecDepth 100000 in
set_option maxHeartbeats 8000000 in
theorem walk_bad (n s : Int) (v : Value) (es : List E) (w : World) (hv : SlE w v es) (hlen : es.length ≤ 9223372036854775807) (hc : lk n es [s] ≠ 0) :
    Calls Try.prog 8 #[.agg #[.int .i64 n, v], .int .i64 s] w fun e w' => e = .returned (.bool true) ∧ Below w.heap.size w w' := by
  obtain ⟨a0, c0, rfl⟩ := hv.val
  have HV : Hid _ := hv
  have HC : Hid (lk n es [s] ≠ 0) := hc
  have hz : (lk n es [s] != 0) = true := by simp [hc]
  clear hv hc
  go_enter Try.func8, Try.ntmps8
  go_wp2_with fail
  have P0 : Hid _ := box2_new w (n : Int) (.slice a0 es.length c0) 24
  have B0 : Hid (Below w.heap.size w (w.alloc (.cells #[.int .i64 n, .slice a0 es.length c0] 24))) := balloc (Below.refl _ _) _
  generalize w.alloc (.cells #[.int .i64 n, .slice a0 es.length c0] 24) = W0 at *
  refine (two_any W0).mono ?_
  rintro e w1 ⟨X1, rfl, e1, b1⟩
  have E1 : Hid _ := e1
  have P1 : Hid _ := P0.out.below b1
  have B1 : Hid (Below w.heap.size w w1) := bthen B0.out b1
  clear e1 b1 P0 B0
  go_wp2_with fail
  refine (bdist_two _ w1 E1.out).mono ?_
  rintro e w2 ⟨G2, rfl, i2, b2⟩
  have I2 : Hid _ := i2
  have P2 : Hid _ := P1.out.below b2
  have B2 : Hid (Below w.heap.size w w2) := bthen B1.out b2
  clear i2 b2 P1 B1 E1
  go_wp2_with fail
  have L3 : Hid _ := lit_nums w2 [0, 5] #[.int .i64 0, .int .i64 5] 2 rfl rfl
  have b3 : Below w2.heap.size w2 (w2.alloc (.cells #[.int .i64 0, .int .i64 5] 3)) := balloc (Below.refl _ _) _
  generalize w2.alloc (.cells #[.int .i64 0, .int .i64 5] 3) = W3 at *
  refine (iequal_yes _ _ [0, 5] W3 (I2.out.below b3) L3.out (by simp)).mono ?_
  rintro e w4 ⟨rfl, b4⟩
  have P4 : Hid _ := (P2.out.below b3).below b4
  have B4 : Hid (Below w.heap.size w w4) := bthen (bthen B2.out b3) b4
  obtain ⟨p0, p1⟩ := P4.out
  clear b3 b4 P2 B2 I2 L3
  go_wp2_with fail
  clear p0 p1
  refine (dist_bad n s _ es w4 (HV.out.below B4.out) hlen HC.out).mono ?_
  rintro e w5 ⟨rfl, b5⟩
  have P5 : Hid _ := P4.out.below b5
  have B5 : Hid (Below w.heap.size w w5) := bthen B4.out b5
  obtain ⟨p0, p1⟩ := P5.out
  clear b5 P4 B4
  go_wp2_with fail
  clear p0 p1
  refine (bdist_back n s _ es w5 (HV.out.below B5.out) hlen).mono ?_
  rintro e w6 ⟨⟨a6, m6, c6, k6, rfl⟩, b6⟩
  have B6 : Hid (Below w.heap.size w w6) := bthen B5.out b6
  clear b6
  generalize lk n es [s] = k1 at *
  go_wp2_with fail
  go_ret
  exact ⟨rfl, B6.out⟩

set_option maxRecDepth 100000 in
set_option maxHeartbeats 8000000 in
theorem walk_yes (N s : Nat) (v : Value) (es : List E) (w : World) (hv : SlE w v es) (hps : nps N es = 0) (hq : Qn N es) (hb : Rnt N es) (hsN : s < N) :
    Calls Try.prog 8 #[.agg #[.int .i64 N, v], .int .i64 s] w fun e w' => e = .returned (.bool true) ∧ Below w.heap.size w w' := by
  obtain ⟨a0, c0, rfl⟩ := hv.val
  have HV : Hid _ := hv
  have HPS : Hid _ := hps
  have HQ : Hid _ := hq
  have HB : Hid _ := hb
  have hn64 := hb.n64
  clear hv hps hq hb
  go_enter Try.func8, Try.ntmps8
  go_wp2_with fail
  have P0 : Hid _ := box2_new w (N : Int) (.slice a0 es.length c0) 24
  have B0 : Hid (Below w.heap.size w (w.alloc (.cells #[.int .i64 N, .slice a0 es.length c0] 24))) := balloc (Below.refl _ _) _
  generalize w.alloc (.cells #[.int .i64 N, .slice a0 es.length c0] 24) = W0 at *
  refine (two_any W0).mono ?_
  rintro e w1 ⟨X1, rfl, e1, b1⟩
  have E1 : Hid _ := e1
  have P1 : Hid _ := P0.out.below b1
  have B1 : Hid (Below w.heap.size w w1) := bthen B0.out b1
  clear e1 b1 P0 B0
  go_wp2_with fail
  refine (bdist_two _ w1 E1.out).mono ?_
  rintro e w2 ⟨G2, rfl, i2, b2⟩
  have I2 : Hid _ := i2
  have P2 : Hid _ := P1.out.below b2
  have B2 : Hid (Below w.heap.size w w2) := bthen B1.out b2
  clear i2 b2 P1 B1 E1
  go_wp2_with fail
  have L3 : Hid _ := lit_nums w2 [0, 5] #[.int .i64 0, .int .i64 5] 2 rfl rfl
  have b3 : Below w2.heap.size w2 (w2.alloc (.cells #[.int .i64 0, .int .i64 5] 3)) := balloc (Below.refl _ _) _
  generalize w2.alloc (.cells #[.int .i64 0, .int .i64 5] 3) = W3 at *
  refine (iequal_yes _ _ [0, 5] W3 (I2.out.below b3) L3.out (by simp)).mono ?_
  rintro e w4 ⟨rfl, b4⟩
  have P4 : Hid _ := (P2.out.below b3).below b4
  have B4 : Hid (Below w.heap.size w w4) := bthen (bthen B2.out b3) b4
  obtain ⟨p0, p1⟩ := P4.out
  clear b3 b4 P2 B2 I2 L3
  go_wp2_with fail
  clear p0 p1
  refine (dist_yes N s _ es w4 (HV.out.below B4.out) HPS.out HQ.out hsN).mono ?_
  rintro e w5 ⟨G5, d5, rfl, _, ur5, hd5, b5⟩
  have I5 : Hid _ := ur5.sl
  have D5 : Hid _ := hd5
  have HS : Hid ((rns es (Dm.start s) N).s = -1) := rns_no HB.out (fun v hv => (start_zero N s v hv).2) hd5
  have P5 : Hid _ := P4.out.below b5
  have B5 : Hid (Below w.heap.size w w5) := bthen B4.out b5
  obtain ⟨p0, p1⟩ := P5.out
  clear ur5 hd5 b5 P4 B4
  go_wp2_with fail
  clear p0 p1
  refine (bdist_yes N s _ es w5 (HV.out.below B5.out) HB.out hsN HS.out).mono ?_
  rintro e w6 ⟨G6, rfl, _, ur6, b6⟩
  have HE : lst N (rns es (Dm.start s) N).d = lst N d5 := lst_congr (fun v hv => (rns_yes HB.out (fun v hv => (start_zero N s v hv).2) HS.out).eq HB.out.inn D5.out hv)
  have i6 := ur6.sl
  rw [HE] at i6
  have I6 : Hid _ := i6
  have J6 : Hid _ := I5.out.below b6
  have B6 : Hid (Below w.heap.size w w6) := bthen B5.out b6
  clear ur6 b6 HE i6 I5 D5 HS
  go_wp2_with fail
  refine (iequal_yes _ _ (lst N d5) w6 J6.out I6.out (by rw [lst_length]; omega)).mono ?_
  rintro e w7 ⟨rfl, b7⟩
  have B7 : Hid (Below w.heap.size w w7) := bthen B6.out b7
  clear b7
  go_wp2_with fail
  go_ret
  exact ⟨rfl, B7.out⟩

theorem walk (n s : Int) (v : Value) (es : List E) (w : World) (hv : SlE w v es) (hlen : es.length ≤ 9223372036854775807) :
    Calls Try.prog 8 #[.agg #[.int .i64 n, v], .int .i64 s] w fun e w' => e = .returned (.bool true) ∧ Below w.heap.size w w' := by
  by_cases hc : lk n es [s] = 0
  · obtain ⟨h1, h2⟩ := lk_zero hc
    have h2 : plc n s = true := by simpa using h2
    obtain ⟨hq, hb, hn⟩ := qn_of h1
    obtain ⟨a, rfl, ha⟩ := plc_nat h2
    rw [← hn] at h1 ha ⊢
    exact walk_yes n.toNat a v es w hv h1 hq hb (by omega)
  · exact walk_bad n s v es w hv hlen hc
end Go.Proofs.Ytidbbkpgmcheiaa.BSame
