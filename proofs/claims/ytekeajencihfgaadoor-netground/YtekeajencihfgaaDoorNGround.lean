/-
  The law fellkeep.NetGround, walked.
-/
import Derived.Test.YtekeajencihfgaaDoorOG
namespace Go.Proofs.YtekeajencihfgaaDoor.NGround
open Go.RowKit
open Gm Nm

theorem two_new (w : World) (x y : Int) : SlI (w.alloc (.cells #[.int .i64 x, .int .i64 y] 3)) (.slice (some ⟨w.heap.size, 0, none⟩) 2 2) [x, y] := by
  refine .row w.heap.size 0 2 rfl (fun i hi => ?_)
  rw [Nat.zero_add]
  rcases (show i = 0 ∨ i = 1 by simp at hi; omega) with rfl | rfl
  · exact cell_new w _ _ 0 _ rfl
  · exact cell_new w _ _ 1 _ rfl
theorem a12 : am [1, 2] 2 1 2 = [(0, 1, 15), (1, 0, 15)] := by decide
theorem c12 : gchk 2 1 [1, 2] = 0 := by decide

set_option maxRecDepth 100000 in
set_option maxHeartbeats 8000000 in
theorem walk (W H : Int) (v : Value) (cs : List Int) (w : World) (hv : SlI w v cs) (hlen : cs.length ≤ 9223372036854775807) (hs : Steps w) :
    Calls Tryd.prog 4 #[.agg #[.int .i64 W, .int .i64 H, v]] w fun e w' => e = .returned (.bool true) ∧ Below w.heap.size w w' := by
  obtain ⟨a0, c0, rfl⟩ := hv.val
  have HV : Hid _ := hv
  have HS : Hid _ := hs
  clear hv hs
  have HO1 : Hid (∀ v w, SlI w v [1, 2] → Steps w → Calls Tryd.prog 5 #[.agg #[.int .i64 2, .int .i64 1, v]] w fun e w' => ∃ u, e = .returned (.tuple #[.agg #[.int .i64 2, u], .int .i64 0]) ∧ Es w' w.heap.size u [(0, 1, 15), (1, 0, 15)] ∧ Below w.heap.size w w') := fun v w hv hs => by
    have := of_yes 2 1 v [1, 2] w hv c12 hs
    rw [show ([1, 2] : List Int).length = 2 from rfl, a12] at this
    exact this
  go_enter Tryd.func4, Tryd.ntmps4
  go_wp2_with fail
  have P0 : Hid _ := box3_start w W H (.slice a0 cs.length c0)
  have B0 : Hid (Below w.heap.size w (w.alloc (.cells #[.int .i64 W, .int .i64 H, .slice a0 cs.length c0] 24))) := balloc (Below.refl _ _) _
  have hz0 : (w.alloc (.cells #[.int .i64 W, .int .i64 H, .slice a0 cs.length c0] 24)).heap.size = w.heap.size + 1 := by simp
  generalize w.alloc (.cells #[.int .i64 W, .int .i64 H, .slice a0 cs.length c0] 24) = W0 at *
  have S1 : Hid _ := two_new W0 1 2
  rw [hz0] at S1
  have P1 : Hid _ := P0.out.below (balloc (Below.refl _ _) (.cells #[.int .i64 1, .int .i64 2] 3))
  have B1 : Hid (Below w.heap.size w (W0.alloc (.cells #[.int .i64 1, .int .i64 2] 3))) := balloc B0.out _
  generalize W0.alloc (.cells #[.int .i64 1, .int .i64 2] 3) = W1 at *
  clear hz0 P0 B0
  refine (HO1.out _ W1 S1.out (HS.out.below B1.out)).mono ?_
  rintro e w2 ⟨u, rfl, o2, b2⟩
  obtain ⟨au, cu, rfl⟩ := o2.val
  have P2 : Hid _ := P1.out.below b2
  have B2 : Hid (Below w.heap.size w w2) := bthen B1.out b2
  clear o2 b2 P1 B1 S1 HO1
  have P3 : Hid _ := P2.out.below (balloc (Below.refl _ _) (.cells #[.int .i64 2, .slice au 2 cu] 27))
  obtain ⟨p0, p1, p2⟩ := P3.out
  go_wp2_with fail
  clear p0 p1 p2
  have B3 : Hid (Below w.heap.size w (w2.alloc (.cells #[.int .i64 2, .slice au 2 cu] 27))) := balloc B2.out _
  generalize w2.alloc (.cells #[.int .i64 2, .slice au 2 cu] 27) = W3 at *
  clear P2 B2
  by_cases hc : gchk W H cs = 0
  · have hgd := gchk_zero hc
    have hle := hgd.le
    have hgl := hgd.len
    obtain ⟨q1, q2⟩ := prod_le hgd.w1 hgd.w8 hgd.h1 hgd.h8
    have HOY : Hid _ := fun v w hv hs => of_yes W H v cs w hv hc hs
    have HGN : Hid _ := am_gn hgd
    have HNP : Hid _ := am_nps hgd
    have HBK : Hid _ := am_back hgd
    have hal := am_length cs W H cs.length
    clear hc hgd
    generalize am cs W H cs.length = fs at *
    have hne : ((cs.length : Int) != W * H) = false := by simp [hgl]
    clear hgl
    refine (HOY.out _ W3 (HV.out.below B3.out) (HS.out.below B3.out)).mono ?_
    rintro e w4 ⟨u, rfl, o4, b4⟩
    obtain ⟨a4, c4, rfl⟩ := o4.val
    have O4 : Hid _ := o4.sl
    have P4 : Hid _ := P3.out.below b4
    have B4 : Hid (Below w.heap.size w w4) := bthen B3.out b4
    clear o4 b4 P3 B3
    go_wp2_with fail
    have Q5 : Hid _ := box2_new w4 cs.length (.slice a4 fs.length c4) 27
    have P5 : Hid _ := P4.out.below (balloc (Below.refl _ _) (.cells #[.int .i64 cs.length, .slice a4 fs.length c4] 27))
    have O5 : Hid _ := O4.out.below (balloc (Below.refl _ _) (.cells #[.int .i64 cs.length, .slice a4 fs.length c4] 27))
    have B5 : Hid (Below w.heap.size w (w4.alloc (.cells #[.int .i64 cs.length, .slice a4 fs.length c4] 27))) := balloc B4.out _
    generalize w4.alloc (.cells #[.int .i64 cs.length, .slice a4 fs.length c4] 27) = W5 at *
    obtain ⟨X, hX⟩ : ∃ X, w4.heap.size = X := ⟨_, rfl⟩
    rw [hX] at Q5 ⊢
    clear hX P4 B4 O4
    have HTY : Hid _ := fun v w hv => turn_yes cs.length v fs w hv HGN.out
    have hlm : (fs.map trn).length ≤ 600 := by simp; omega
    generalize fs.map trn = ks at *
    refine (HTY.out _ W5 O5.out).mono ?_
    rintro e w6 ⟨u, rfl, o6, b6⟩
    obtain ⟨a6, c6, rfl⟩ := o6.val
    have K6 : Hid _ := o6.sl
    have Q6 : Hid _ := Q5.out.below b6
    have P6 : Hid _ := P5.out.below b6
    have O6 : Hid _ := O5.out.below b6
    have B6 : Hid (Below w.heap.size w w6) := bthen B5.out b6
    clear o6 b6 P5 Q5 O5 B5
    obtain ⟨q0, q1'⟩ := Q6.out.below (balloc (Below.refl _ _) (.cells #[.int .i64 cs.length, .slice a6 ks.length c6] 27))
    go_wp2_with fail
    clear q0 q1'
    have R7 : Hid _ := box2_new w6 cs.length (.slice a6 ks.length c6) 27
    have Q7 : Hid _ := Q6.out.below (balloc (Below.refl _ _) (.cells #[.int .i64 cs.length, .slice a6 ks.length c6] 27))
    have P7 : Hid _ := P6.out.below (balloc (Below.refl _ _) (.cells #[.int .i64 cs.length, .slice a6 ks.length c6] 27))
    have O7 : Hid _ := O6.out.below (balloc (Below.refl _ _) (.cells #[.int .i64 cs.length, .slice a6 ks.length c6] 27))
    have K7 : Hid _ := K6.out.below (balloc (Below.refl _ _) (.cells #[.int .i64 cs.length, .slice a6 ks.length c6] 27))
    have B7 : Hid (Below w.heap.size w (w6.alloc (.cells #[.int .i64 cs.length, .slice a6 ks.length c6] 27))) := balloc B6.out _
    generalize w6.alloc (.cells #[.int .i64 cs.length, .slice a6 ks.length c6] 27) = W7 at *
    obtain ⟨Y, hY⟩ : ∃ Y, w6.heap.size = Y := ⟨_, rfl⟩
    rw [hY] at R7 ⊢
    clear hY P6 Q6 O6 K6 B6
    refine (npos_any cs.length _ fs W7 O7.out (by omega)).mono ?_
    rintro e w8 ⟨rfl, b8⟩
    have R8 : Hid _ := R7.out.below b8
    have Q8 : Hid _ := Q7.out.below b8
    have P8 : Hid _ := P7.out.below b8
    have O8 : Hid _ := O7.out.below b8
    have K8 : Hid _ := K7.out.below b8
    have B8 : Hid (Below w.heap.size w w8) := bthen B7.out b8
    rw [HNP.out]
    clear b8 P7 Q7 O7 K7 R7 B7
    obtain ⟨q0, q1'⟩ := Q8.out
    obtain ⟨p0, p1, p2⟩ := P8.out
    go_wp2_with fail
    clear q0 q1' p0 p1 p2
    refine (con_none _ _ fs ks cs.length Y w8 O8.out (by omega) R8.out K8.out hlm HBK.out).mono ?_
    rintro e w9 ⟨rfl, b9⟩
    have B9 : Hid (Below w.heap.size w w9) := bthen B8.out b9
    clear b9
    go_wp2_with fail
    go_ret
    exact ⟨rfl, B9.out⟩
  · have hz : (gchk W H cs != 0) = true := by simp [hc]
    have HC : Hid _ := hc
    clear hc
    refine (of_bad W H _ cs W3 (HV.out.below B3.out) hlen HC.out).mono ?_
    rintro e w4 ⟨rfl, b4⟩
    have B4 : Hid (Below w.heap.size w w4) := bthen B3.out b4
    clear b4
    go_wp2_with fail
    go_ret
    exact ⟨rfl, balloc B4.out _⟩
end Go.Proofs.YtekeajencihfgaaDoor.NGround
