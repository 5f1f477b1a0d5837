/-
  The law felllaw.SpanNecks, walked.
-/
import Derived.Test.YtdgihpegdcoilaaKZ
import Derived.Test.YtdgihpegdcoilaaKW
import Derived.Test.YtdgihpegdcoilaaNB
namespace Go.Proofs.Ytdgihpegdcoilaa.SNecks
open Go.RowKit
open Nm Kk
attribute [local go_sem ↓] Go.wp_at_zero Go.wp_at_succ

theorem nk_two (es : List E) (a b : Nat) : (nk es a b).2 = 0 ∨ (nk es a b).2 = 5 := by
  unfold nk; split
  · exact .inr rfl
  · exact .inl rfl
set_option maxRecDepth 100000 in
set_option maxHeartbeats 8000000 in
theorem walk_net (n a b : Int) (v : Value) (es : List E) (w : World) (hv : SlE w v es) (hlen : es.length ≤ 9223372036854775807) (hc : nck n es ≠ 0) :
    Calls Try.prog 5 #[.agg #[.int .i64 n, v], .int .i64 a, .int .i64 b] w fun e w' => e = .returned (.bool true) ∧ Below w.heap.size w w' := by
  obtain ⟨a0, c0, rfl⟩ := hv.val
  have HV : Hid _ := hv
  obtain ⟨k1, hk1⟩ : ∃ k, nck n es = k := ⟨_, rfl⟩
  have HK : Hid _ := hk1
  have HD : Hid (∀ W, SlE W (.slice a0 es.length c0) es → Calls Try.prog 20 #[.agg #[.int .i64 n, .slice a0 es.length c0], .int .i64 a, .int .i64 b] W fun e w' => e = .returned (.tuple #[.int .i64 0, .int .i64 k1]) ∧ Below W.heap.size W w') := fun W hW => by rw [← hk1]; exact neck_net n a b _ es W hW hlen hc
  have hk0 : k1 ≠ 0 := by rw [← hk1]; exact hc
  have z1 : (k1 == 0) = false := by simp [hk0]
  have z3 : (k1 == k1) = true := by simp
  have z4 : (k1 != 0) = true := by simp [hk0]
  clear hv hc hk1 hk0
  go_enter Try.func5, Try.ntmps5
  go_wp2_with fail
  have P0 : Hid _ := box2_new w n (.slice a0 es.length c0) 35
  have B0 : Hid (Below w.heap.size w (w.alloc (.cells #[.int .i64 n, .slice a0 es.length c0] 35))) := balloc (Below.refl _ _) _
  generalize w.alloc (.cells #[.int .i64 n, .slice a0 es.length c0] 35) = W0 at *
  refine (HD.out W0 (HV.out.below B0.out)).mono ?_
  rintro e w1 ⟨rfl, b1⟩
  have P1 : Hid _ := P0.out.below b1
  have B1 : Hid (Below w.heap.size w w1) := bthen B0.out b1
  obtain ⟨p0, p1⟩ := P1.out
  clear b1
  go_wp2_with fail
  refine (rnet_any n _ es w1 (HV.out.below B1.out) hlen).mono ?_
  rintro e w2 ⟨rfl, b2⟩
  rw [HK.out]
  have B2 : Hid (Below w.heap.size w w2) := bthen B1.out b2
  clear b2
  go_wp2_with fail
  go_ret
  exact ⟨rfl, B2.out⟩
set_option maxRecDepth 100000 in
set_option maxHeartbeats 8000000 in
theorem walk_arg (n a b : Int) (v : Value) (es : List E) (w : World) (hv : SlE w v es) (hg : Gn n es) (hbad : ¬ (plc n a = true ∧ plc n b = true ∧ a ≠ b)) :
    Calls Try.prog 5 #[.agg #[.int .i64 n, v], .int .i64 a, .int .i64 b] w fun e w' => e = .returned (.bool true) ∧ Below w.heap.size w w' := by
  obtain ⟨a0, c0, rfl⟩ := hv.val
  have HV : Hid _ := hv
  have HG : Hid _ := hg
  have HC : Hid _ := nck_zero.2 hg
  have hl := hg.len
  have HX : Hid _ := hbad
  have HY : Hid (¬ ((0 ≤ a ∧ a < n) ∧ (0 ≤ b ∧ b < n) ∧ a ≠ b)) := fun h => hbad ⟨plc_yes h.1.1 h.1.2, plc_yes h.2.1.1 h.2.1.2, h.2.2⟩
  clear hv hg hbad
  go_enter Try.func5, Try.ntmps5
  go_wp2_with fail
  have P0 : Hid _ := box2_new w n (.slice a0 es.length c0) 35
  have B0 : Hid (Below w.heap.size w (w.alloc (.cells #[.int .i64 n, .slice a0 es.length c0] 35))) := balloc (Below.refl _ _) _
  generalize w.alloc (.cells #[.int .i64 n, .slice a0 es.length c0] 35) = W0 at *
  refine (neck_arg n a b _ es W0 (HV.out.below B0.out) HG.out HX.out).mono ?_
  rintro e w1 ⟨rfl, b1⟩
  have P1 : Hid _ := P0.out.below b1
  have B1 : Hid (Below w.heap.size w w1) := bthen B0.out b1
  obtain ⟨p0, p1⟩ := P1.out
  clear b1
  go_wp2_with fail
  refine (rnet_any n _ es w1 (HV.out.below B1.out) (by omega)).mono ?_
  rintro e w2 ⟨rfl, b2⟩
  rw [HC.out]
  have B2 : Hid (Below w.heap.size w w2) := bthen B1.out b2
  have P2 : Hid _ := P1.out.below b2
  clear b2 p0 p1
  obtain ⟨p0, p1⟩ := P2.out
  rcases (show a < b ∨ b < a ∨ a = b by omega) with h | h | h
  · have h' : ¬ b < a := by omega
    have hq : (a == b) = false := by simp; omega
    by_cases ha : a < 0
    · go_wp2_with fail
      go_ret
      exact ⟨rfl, B2.out⟩
    · have hbn : n ≤ b := by have := HY.out; omega
      go_wp2_with fail
      go_ret
      exact ⟨rfl, B2.out⟩
  · have h' : ¬ a < b := by omega
    have hq : (a == b) = false := by simp; omega
    by_cases hb : b < 0
    · go_wp2_with fail
      go_ret
      exact ⟨rfl, B2.out⟩
    · have hbn : n ≤ a := by have := HY.out; omega
      go_wp2_with fail
      go_ret
      exact ⟨rfl, B2.out⟩
  · subst h
    have hq : (a == a) = true := by simp
    by_cases ha : a < 0
    · go_wp2_with fail
      go_ret
      exact ⟨rfl, B2.out⟩
    · by_cases hn : n ≤ a
      · go_wp2_with fail
        go_ret
        exact ⟨rfl, B2.out⟩
      · go_wp2_with fail
        go_ret
        exact ⟨rfl, B2.out⟩
set_option maxRecDepth 100000 in
set_option maxHeartbeats 8000000 in
theorem walk_yes (n a b : Nat) (v : Value) (es : List E) (w : World) (hv : SlE w v es) (hg : Gn n es) (ha : a < n) (hb : b < n) (hab : a ≠ b) :
    Calls Try.prog 5 #[.agg #[.int .i64 n, v], .int .i64 a, .int .i64 b] w fun e w' => e = .returned (.bool true) ∧ Below w.heap.size w w' := by
  obtain ⟨a0, c0, rfl⟩ := hv.val
  have HV : Hid _ := hv
  have HG : Hid _ := hg
  have HC : Hid _ := nck_zero.2 hg
  have hl := hg.len
  have HAB : Hid _ := hab
  have HR : Hid _ := rn_nk (es := es) hab
  have H2 : Hid _ := nk_two es a b
  clear hv hg
  go_enter Try.func5, Try.ntmps5
  go_wp2_with fail
  have P0 : Hid _ := box2_new w (n : Int) (.slice a0 es.length c0) 35
  have B0 : Hid (Below w.heap.size w (w.alloc (.cells #[.int .i64 (n : Int), .slice a0 es.length c0] 35))) := balloc (Below.refl _ _) _
  generalize w.alloc (.cells #[.int .i64 (n : Int), .slice a0 es.length c0] 35) = W0 at *
  refine (neck_yes n a b _ es W0 (HV.out.below B0.out) HG.out ha hb HAB.out).mono ?_
  rintro e w1 ⟨rfl, b1⟩
  have P1 : Hid _ := P0.out.below b1
  have B1 : Hid (Below w.heap.size w w1) := bthen B0.out b1
  obtain ⟨p0, p1⟩ := P1.out
  clear b1
  go_wp2_with fail
  refine (rnet_any n _ es w1 (HV.out.below B1.out) (by omega)).mono ?_
  rintro e w2 ⟨rfl, b2⟩
  rw [HC.out]
  have B2 : Hid (Below w.heap.size w w2) := bthen B1.out b2
  have P2 : Hid _ := P1.out.below b2
  clear b2 p0 p1
  obtain ⟨p0, p1⟩ := P2.out
  have hq : ((a : Int) == (b : Int)) = false := by have := HAB.out; simp; omega
  have ha0 : ¬ (a : Int) < 0 := by omega
  have hb0 : ¬ (b : Int) < 0 := by omega
  have han : ¬ (n : Int) ≤ (a : Int) := by omega
  have hbn : ¬ (n : Int) ≤ (b : Int) := by omega
  rcases (show (a : Int) < (b : Int) ∨ (b : Int) < (a : Int) by omega) with h | h
  · have h' : ¬ (b : Int) < (a : Int) := by omega
    go_wp2_with fail
    refine (rneck_any n a b _ es w2 (HV.out.below B2.out) HG.out ha hb).mono ?_
    rintro e w3 ⟨rfl, b3⟩
    rw [HR.out]
    have B3 : Hid (Below w.heap.size w w3) := bthen B2.out b3
    clear b3
    generalize nk es a b = r at *
    obtain ⟨r1, r2⟩ := r
    have q1 : (r1 == r1) = true := by simp
    have q2 : (r2 == r2) = true := by simp
    go_wp2_with fail
    go_ret
    exact ⟨rfl, B3.out⟩
  · have h' : ¬ (a : Int) < (b : Int) := by omega
    go_wp2_with fail
    refine (rneck_any n a b _ es w2 (HV.out.below B2.out) HG.out ha hb).mono ?_
    rintro e w3 ⟨rfl, b3⟩
    rw [HR.out]
    have B3 : Hid (Below w.heap.size w w3) := bthen B2.out b3
    clear b3
    generalize nk es a b = r at *
    obtain ⟨r1, r2⟩ := r
    have q1 : (r1 == r1) = true := by simp
    have q2 : (r2 == r2) = true := by simp
    go_wp2_with fail
    go_ret
    exact ⟨rfl, B3.out⟩
theorem walk (n a b : Int) (v : Value) (es : List E) (w : World) (hv : SlE w v es) (hlen : es.length ≤ 9223372036854775807) :
    Calls Try.prog 5 #[.agg #[.int .i64 n, v], .int .i64 a, .int .i64 b] w fun e w' => e = .returned (.bool true) ∧ Below w.heap.size w w' := by
  by_cases hc : nck n es = 0
  · have hg := nck_zero.1 hc
    by_cases hp : plc n a = true ∧ plc n b = true ∧ a ≠ b
    · obtain ⟨m, rfl⟩ := Int.eq_ofNat_of_zero_le (show 0 ≤ n by have := hg.n1; omega)
      have h1 := of_decide_eq_true hp.1
      have h2 := of_decide_eq_true hp.2.1
      obtain ⟨x, rfl⟩ := Int.eq_ofNat_of_zero_le h1.1
      obtain ⟨y, rfl⟩ := Int.eq_ofNat_of_zero_le h2.1
      exact walk_yes m x y v es w hv hg (by omega) (by omega) (by have := hp.2.2; omega)
    · exact walk_arg n a b v es w hv hg hp
  · exact walk_net n a b v es w hv hlen hc
end Go.Proofs.Ytdgihpegdcoilaa.SNecks
