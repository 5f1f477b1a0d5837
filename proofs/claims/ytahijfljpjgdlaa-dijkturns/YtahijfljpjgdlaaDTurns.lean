/-
  The law fellkeep.DijkTurns, walked.
-/
import Derived.Test.YtahijfljpjgdlaaTW
namespace Go.Proofs.Ytahijfljpjgdlaa.DTurns
open Go.RowKit
open Nm Wm Dm
attribute [local go_sem ↓] Go.wp_at_zero Go.wp_at_succ

theorem lk_cases {n s : Int} {es : List E} (h : lk n es [s] = 0) : nps n es = 0 ∧ plc n s = true := by
  obtain ⟨h1, h2⟩ := lk_zero h
  refine ⟨h1, ?_⟩
  simpa using h2
theorem lk_one {n s : Int} {es : List E} (h : nps n es = 0) (hs : plc n s = false) : lk n es [s] = 1 := lk_out (k := 0) h (by simp) hs
theorem lk_is {n s : Int} {es : List E} (h : nps n es = 0) (hs : plc n s = true) : lk n es [s] = 0 := lk_ok h (fun k hk => by
  obtain rfl : k = 0 := by simpa using hk
  exact hs)

set_option maxRecDepth 100000 in
set_option maxHeartbeats 16000000 in
theorem walk_bad (n a b : Int) (v : Value) (es : List E) (w : World) (hv : SlE w v es) (hlen : es.length ≤ 9223372036854775807) (hc : lk n es [a] ≠ 0) :
    Calls Try.prog 8 #[.agg #[.int .i64 n, v], .int .i64 a, .int .i64 b] w fun e w' => e = .returned (.bool true) ∧ Below w.heap.size w w' := by
  obtain ⟨a0, c0, rfl⟩ := hv.val
  have HV : Hid _ := hv
  have HC : Hid _ := hc
  have hz : (lk n es [a] != 0) = true := by simp [hc]
  clear hv hc
  go_enter Try.func8, Try.ntmps8
  go_wp2_with fail
  have P0 : Hid _ := box2_new w n (.slice a0 es.length c0) 24
  have B0 : Hid (Below w.heap.size w (w.alloc (.cells #[.int .i64 n, .slice a0 es.length c0] 24))) := balloc (Below.refl _ _) _
  generalize w.alloc (.cells #[.int .i64 n, .slice a0 es.length c0] 24) = W0 at *
  refine (two_any W0).mono ?_
  rintro e w1 ⟨X1, rfl, e1, b1⟩
  have E1 : Hid _ := e1
  have P1 : Hid _ := P0.out.below b1
  have B1 : Hid (Below w.heap.size w w1) := bthen B0.out b1
  clear e1 b1 P0 B0
  go_wp2_with fail
  refine (dist_two0 _ w1 E1.out).mono ?_
  rintro e w2 ⟨G2, rfl, i2, b2⟩
  have I2 : Hid _ := i2
  have P2 : Hid _ := P1.out.below b2
  have B2 : Hid (Below w.heap.size w w2) := bthen B1.out b2
  clear i2 b2 P1 B1 E1
  go_wp2_with fail
  have L3 : Hid _ := lit_nums w2 [0, 5] #[.int .i64 0, .int .i64 5] 2 rfl rfl
  have b3 : Below w2.heap.size w2 (w2.alloc (.cells #[.int .i64 0, .int .i64 5] 3)) := balloc (Below.refl _ _) _
  generalize w2.alloc (.cells #[.int .i64 0, .int .i64 5] 3) = W3 at *
  refine (iequal_yes _ _ [0, 5] W3 (I2.out.below b3) L3.out (by simp)).mono ?_
  rintro e w4 ⟨rfl, b4⟩
  have P4 : Hid _ := (P2.out.below b3).below b4
  have B4 : Hid (Below w.heap.size w w4) := bthen (bthen B2.out b3) b4
  obtain ⟨p0, p1⟩ := P4.out
  clear b3 b4 P2 B2 I2 L3
  go_wp2_with fail
  clear p0 p1
  refine (dist_bad n a _ es w4 (HV.out.below B4.out) hlen HC.out).mono ?_
  rintro e w5 ⟨rfl, b5⟩
  have P5 : Hid _ := P4.out.below b5
  have B5 : Hid (Below w.heap.size w w5) := bthen B4.out b5
  obtain ⟨p0, p1⟩ := P5.out
  clear b5 P4 B4
  go_wp2_with fail
  clear p0 p1
  by_cases hk : nck n es = 0
  · have HG : Hid _ := nck_zero.1 hk
    clear hk
    refine (turn_yes n _ es w5 (HV.out.below B5.out) HG.out).mono ?_
    rintro e w6 ⟨u6, rfl, o6, b6⟩
    obtain ⟨au, cu, rfl⟩ := o6.sl.val
    have B6 : Hid (Below w.heap.size w w6) := bthen B5.out b6
    clear o6 b6
    generalize (es.map trn).length = L at *
    go_wp2_with fail
    go_ret
    exact ⟨rfl, balloc B6.out _⟩
  · have HK : Hid _ := hk
    clear hk
    refine (turn_bad n _ es w5 (HV.out.below B5.out) hlen HK.out).mono ?_
    rintro e w6 ⟨rfl, b6⟩
    have B6 : Hid (Below w.heap.size w w6) := bthen B5.out b6
    clear b6
    go_wp2_with fail
    go_ret
    exact ⟨rfl, balloc B6.out _⟩

set_option maxRecDepth 100000 in
set_option maxHeartbeats 16000000 in
theorem walk_yes (N a : Nat) (b : Int) (v : Value) (es : List E) (w : World) (hv : SlE w v es) (hps : nps N es = 0) (hp : Pn N es) (hg : Gn N es) (ha : a < N) :
    Calls Try.prog 8 #[.agg #[.int .i64 N, v], .int .i64 a, .int .i64 b] w fun e w' => e = .returned (.bool true) ∧ Below w.heap.size w w' := by
  obtain ⟨a0, c0, rfl⟩ := hv.val
  obtain ⟨n, hn⟩ : ∃ n : Int, (N : Int) = n := ⟨_, rfl⟩
  have HV : Hid _ := hv
  have HPS : Hid _ := hps
  have HP : Hid _ := hp
  have HG : Hid _ := hg
  have HTN : Hid _ := nps_turn hps
  have HTP : Hid _ := pn_turn hp
  have HTU : Hid _ := fun (b' : Nat) l m (hb : b' < N) h h' => @IsD.turn N es a b' l m hp ha hb h h'
  have HTY : Hid (∀ w v, SlE w v es → _) := fun w v hv => turn_yes N v es w hv hg
  have hlm : (es.map trn).length ≤ 600 := by have := hp.len; simp; omega
  have hn64 := hp.n64
  generalize es.map trn = fs at *
  have HN : Hid _ := hn
  rw [hn] at HTY ⊢
  clear hv hps hp hg hn
  go_enter Try.func8, Try.ntmps8
  go_wp2_with fail
  have P0 : Hid _ := box2_new w n (.slice a0 es.length c0) 24
  have B0 : Hid (Below w.heap.size w (w.alloc (.cells #[.int .i64 n, .slice a0 es.length c0] 24))) := balloc (Below.refl _ _) _
  generalize w.alloc (.cells #[.int .i64 n, .slice a0 es.length c0] 24) = W0 at *
  refine (two_any W0).mono ?_
  rintro e w1 ⟨X1, rfl, e1, b1⟩
  have E1 : Hid _ := e1
  have P1 : Hid _ := P0.out.below b1
  have B1 : Hid (Below w.heap.size w w1) := bthen B0.out b1
  clear e1 b1 P0 B0
  go_wp2_with fail
  refine (dist_two0 _ w1 E1.out).mono ?_
  rintro e w2 ⟨G2, rfl, i2, b2⟩
  have I2 : Hid _ := i2
  have P2 : Hid _ := P1.out.below b2
  have B2 : Hid (Below w.heap.size w w2) := bthen B1.out b2
  clear i2 b2 P1 B1 E1
  go_wp2_with fail
  have L3 : Hid _ := lit_nums w2 [0, 5] #[.int .i64 0, .int .i64 5] 2 rfl rfl
  have b3 : Below w2.heap.size w2 (w2.alloc (.cells #[.int .i64 0, .int .i64 5] 3)) := balloc (Below.refl _ _) _
  generalize w2.alloc (.cells #[.int .i64 0, .int .i64 5] 3) = W3 at *
  refine (iequal_yes _ _ [0, 5] W3 (I2.out.below b3) L3.out (by simp)).mono ?_
  rintro e w4 ⟨rfl, b4⟩
  have P4 : Hid _ := (P2.out.below b3).below b4
  have B4 : Hid (Below w.heap.size w w4) := bthen (bthen B2.out b3) b4
  obtain ⟨p0, p1⟩ := P4.out
  clear b3 b4 P2 B2 I2 L3
  go_wp2_with fail
  clear p0 p1
  have hdy := dist_yes N a (.slice a0 es.length c0) es w4 (HV.out.below B4.out) HPS.out HP.out ha
  rw [HN.out] at hdy
  refine hdy.mono ?_
  rintro e w5 ⟨G5, d5, rfl, _, ur5, hd5, b5⟩
  have U5 : Hid _ := ur5
  have D5 : Hid _ := hd5
  have P5 : Hid _ := P4.out.below b5
  have B5 : Hid (Below w.heap.size w w5) := bthen B4.out b5
  obtain ⟨p0, p1⟩ := P5.out
  clear ur5 hd5 b5 P4 B4 hdy
  go_wp2_with fail
  clear p0 p1
  refine (HTY.out w5 _ (HV.out.below B5.out)).mono ?_
  rintro e w6 ⟨u6, rfl, o6, b6⟩
  obtain ⟨au, cu, rfl⟩ := o6.sl.val
  have O6 : Hid _ := o6.sl
  have U6 : Hid _ := U5.out.below b6
  have B6 : Hid (Below w.heap.size w w6) := bthen B5.out b6
  clear o6 b6 U5 P5 B5
  go_wp2_with fail
  have Q7 : Hid _ := box2_new w6 n (.slice au fs.length cu) 24
  have b7 : Below w6.heap.size w6 (w6.alloc (.cells #[.int .i64 n, .slice au fs.length cu] 24)) := balloc (Below.refl _ _) _
  generalize w6.alloc (.cells #[.int .i64 n, .slice au fs.length cu] 24) = W7 at *
  have O7 : Hid _ := O6.out.below b7
  have U7 : Hid _ := U6.out.below b7
  have B7 : Hid (Below w.heap.size w W7) := bthen B6.out b7
  obtain ⟨X, hX⟩ : ∃ X, w6.heap.size = X := ⟨_, rfl⟩
  rw [hX] at Q7 ⊢
  clear hX b7 O6 U6 B6
  obtain ⟨q0, q1⟩ := Q7.out
  go_wp2_with fail
  clear q0 q1
  cases hb : plc N b
  · have HL : Hid _ := lk_one HTN.out hb
    clear hb
    have hdb := dist_bad N b (.slice au fs.length cu) fs W7 O7.out (by omega) (by rw [HL.out]; decide)
    rw [HL.out, HN.out] at hdb
    refine hdb.mono ?_
    rintro e w8 ⟨rfl, b8⟩
    clear hdb
    go_wp2_with fail
    go_ret
    exact ⟨rfl, bthen B7.out b8⟩
  · obtain ⟨j, rfl, hj⟩ := plc_nat hb
    clear hb
    have hjN : j < N := by omega
    have hdb := dist_yes N j (.slice au fs.length cu) fs W7 O7.out HTN.out HTP.out hjN
    rw [HN.out] at hdb
    refine hdb.mono ?_
    rintro e w8 ⟨G8, d8, rfl, _, ur8, hd8, b8⟩
    have HE : Hid (d5 j = d8 a) := HTU.out j d5 d8 hjN D5.out hd8
    obtain ⟨k1, _⟩ := (U7.out.below b8).cell j hjN
    obtain ⟨k2, _⟩ := ur8.cell a ha
    rw [HE.out] at k1
    have B8 : Hid (Below w.heap.size w w8) := bthen B7.out b8
    generalize d8 a = z at *
    have hja : (j : Int) < (N : Int) := hj
    have haa : (a : Int) < (N : Int) := by omega
    clear ur8 hd8 b8 hdb HE hj
    go_wp2_with fail
    go_quiet (fail)
    go_wp2_with fail
    go_ret
    exact ⟨rfl, bdrewN B8.out _⟩

theorem walk (n a b : Int) (v : Value) (es : List E) (w : World) (hv : SlE w v es) (hlen : es.length ≤ 9223372036854775807) :
    Calls Try.prog 8 #[.agg #[.int .i64 n, v], .int .i64 a, .int .i64 b] w fun e w' => e = .returned (.bool true) ∧ Below w.heap.size w w' := by
  by_cases hc : lk n es [a] = 0
  · obtain ⟨h1, h2⟩ := lk_cases hc
    obtain ⟨hg, hp, hn⟩ := pn_of h1
    obtain ⟨s, rfl, hs⟩ := plc_nat h2
    rw [← hn] at h1 hg hs ⊢
    exact walk_yes n.toNat s b v es w hv h1 hp hg (by omega)
  · exact walk_bad n a b v es w hv hlen hc
end Go.Proofs.Ytahijfljpjgdlaa.DTurns
