/-
  The law felllaw.CompSays, walked.
-/
import Derived.Test.YtkklgnfimkojlaaKD
import Derived.Test.YtkklgnfimkojlaaKK
import Derived.Test.YtkklgnfimkojlaaNB
import Derived.Test.YtkklgnfimkojlaaIE
namespace Go.Proofs.Ytkklgnfimkojlaa.CSays
open Go.RowKit
open Nm Wm Dm Bm Fm Fl Km
attribute [local go_sem ↓] Go.wp_at_zero Go.wp_at_succ

set_option maxRecDepth 100000 in
set_option maxHeartbeats 8000000 in
theorem walk_net (n : Int) (v : Value) (es : List E) (w : World) (hv : SlE w v es) (hlen : es.length ≤ 9223372036854775807) (hc : nck n es ≠ 0) :
    Calls Try.prog 3 #[.agg #[.int .i64 n, v]] w fun e w' => e = .returned (.bool true) ∧ Below w.heap.size w w' := by
  obtain ⟨a0, c0, rfl⟩ := hv.val
  have HV : Hid _ := hv
  have HC : Hid _ := hc
  obtain ⟨k1, hk1⟩ : ∃ k, nck n es = k := ⟨_, rfl⟩
  have HK : Hid _ := hk1
  have z3 : (k1 == k1) = true := by simp
  have z4 : (k1 != 0) = true := by rw [← hk1]; simp [hc]
  clear hv hc hk1
  go_enter Try.func3, Try.ntmps3
  go_wp2_with fail
  have P0 : Hid _ := box2_new w (n : Int) (.slice a0 es.length c0) 24
  have B0 : Hid (Below w.heap.size w (w.alloc (.cells #[.int .i64 n, .slice a0 es.length c0] 24))) := balloc (Below.refl _ _) _
  generalize w.alloc (.cells #[.int .i64 n, .slice a0 es.length c0] 24) = W0 at *
  refine (cof_net n _ es W0 (HV.out.below B0.out) hlen HC.out).mono ?_
  rintro e w1 ⟨rfl, b1⟩
  rw [HK.out]
  have P1 : Hid _ := P0.out.below b1
  have B1 : Hid (Below w.heap.size w w1) := bthen B0.out b1
  obtain ⟨p0, p1⟩ := P1.out
  clear b1 P0 B0
  go_wp2_with fail
  clear p0 p1
  refine (cord_net n _ es w1 (HV.out.below B1.out) hlen HC.out).mono ?_
  rintro e w2 ⟨rfl, b2⟩
  rw [HK.out]
  have P2 : Hid _ := P1.out.below b2
  have B2 : Hid (Below w.heap.size w w2) := bthen B1.out b2
  obtain ⟨p0, p1⟩ := P2.out
  clear b2 P1 B1
  go_wp2_with fail
  clear p0 p1
  refine (rnet_any n _ es w2 (HV.out.below B2.out) hlen).mono ?_
  rintro e w3 ⟨rfl, b3⟩
  rw [HK.out]
  have B3 : Hid (Below w.heap.size w w3) := bthen B2.out b3
  clear b3
  go_wp2_with fail
  go_ret
  exact ⟨rfl, B3.out⟩
set_option maxRecDepth 100000 in
set_option maxHeartbeats 8000000 in
theorem walk_yes (N : Nat) (v : Value) (es : List E) (w : World) (hv : SlE w v es) (hb : Rnt N es) :
    Calls Try.prog 3 #[.agg #[.int .i64 N, v]] w fun e w' => e = .returned (.bool true) ∧ Below w.heap.size w w' := by
  obtain ⟨a0, c0, rfl⟩ := hv.val
  have HV : Hid _ := hv
  have HB : Hid _ := hb
  have HC : Hid _ := hb.nck
  have hn64 := hb.n64
  have hlen : es.length ≤ 9223372036854775807 := by have := hb.len; omega
  have HLO : Hid (∀ K, (ints (ord (lk K es) (kl K N))).length ≤ 9223372036854775807) := fun K => by
    rw [ints_length]; have h1 := kl_len K N; have h2 : (ord (lk K es) (kl K N)).length ≤ (kl K N).length := ordf_len _ _; omega
  clear hv hb
  go_enter Try.func3, Try.ntmps3
  go_wp2_with fail
  have P0 : Hid _ := box2_new w (N : Int) (.slice a0 es.length c0) 24
  have B0 : Hid (Below w.heap.size w (w.alloc (.cells #[.int .i64 N, .slice a0 es.length c0] 24))) := balloc (Below.refl _ _) _
  generalize w.alloc (.cells #[.int .i64 N, .slice a0 es.length c0] 24) = W0 at *
  refine (cof_yes N _ es W0 (HV.out.below B0.out) HB.out).mono ?_
  rintro e w1 ⟨G, rfl, u1, -, b1⟩
  have U1 : Hid _ := u1.sl
  have P1 : Hid _ := P0.out.below b1
  have B1 : Hid (Below w.heap.size w w1) := bthen B0.out b1
  obtain ⟨p0, p1⟩ := P1.out
  clear b1 P0 B0 u1
  go_wp2_with fail
  clear p0 p1
  refine (cord_yes N _ es w1 (HV.out.below B1.out) HB.out).mono ?_
  rintro e w2 ⟨ov, rfl, i2, b2⟩
  have I2 : Hid _ := i2.sl
  have U2 : Hid _ := U1.out.below b2
  have P2 : Hid _ := P1.out.below b2
  have B2 : Hid (Below w.heap.size w w2) := bthen B1.out b2
  obtain ⟨p0, p1⟩ := P2.out
  clear b2 P1 B1 U1 i2
  obtain ⟨ao, co, rfl⟩ := I2.out.val
  go_wp2_with fail
  clear p0 p1
  refine (rnet_any N _ es w2 (HV.out.below B2.out) hlen).mono ?_
  rintro e w3 ⟨rfl, b3⟩
  rw [HC.out]
  have I3 : Hid _ := I2.out.below b3
  have U3 : Hid _ := U2.out.below b3
  have P3 : Hid _ := P2.out.below b3
  have B3 : Hid (Below w.heap.size w w3) := bthen B2.out b3
  obtain ⟨p0, p1⟩ := P3.out
  clear b3 P2 B2 U2 I2
  go_wp2_with fail
  clear p0 p1
  refine (rknots N _ es w3 (HV.out.below B3.out) HB.out).mono ?_
  rintro e w4 ⟨kv, rfl, i4, b4⟩
  have I4 : Hid _ := I3.out.below b4
  have U4 : Hid _ := U3.out.below b4
  have P4 : Hid _ := P3.out.below b4
  have J4 : Hid _ := i4.sl
  have B4 : Hid (Below w.heap.size w w4) := bthen B3.out b4
  clear b4 P3 B3 U3 I3 i4
  go_wp2_with fail
  refine (iequal_yes _ _ _ w4 U4.out J4.out (by rw [lst_length]; omega)).mono ?_
  rintro e w5 ⟨rfl, b5⟩
  have I5 : Hid _ := I4.out.below b5
  have P5 : Hid _ := P4.out.below b5
  have B5 : Hid (Below w.heap.size w w5) := bthen B4.out b5
  obtain ⟨p0, p1⟩ := P5.out
  clear b5 P4 B4 U4 I4 J4
  go_wp2_with fail
  clear p0 p1
  refine (rkord N _ es w5 (HV.out.below B5.out) HB.out).mono ?_
  rintro e w6 ⟨kv2, rfl, i6, b6⟩
  have I6 : Hid _ := I5.out.below b6
  have J6 : Hid _ := i6.sl
  have B6 : Hid (Below w.heap.size w w6) := bthen B5.out b6
  clear b6 B5 I5 i6 P5
  go_wp2_with fail
  refine (iequal_yes _ _ _ w6 I6.out J6.out (HLO.out _)).mono ?_
  rintro e w7 ⟨rfl, b7⟩
  have B7 : Hid (Below w.heap.size w w7) := bthen B6.out b7
  clear b7
  go_wp2_with fail
  go_ret
  exact ⟨rfl, B7.out⟩
theorem walk (n : Int) (v : Value) (es : List E) (w : World) (hv : SlE w v es) (hlen : es.length ≤ 9223372036854775807) :
    Calls Try.prog 3 #[.agg #[.int .i64 n, v]] w fun e w' => e = .returned (.bool true) ∧ Below w.heap.size w w' := by
  by_cases hc : nck n es = 0
  · obtain ⟨hb, hn⟩ := bn_of hc
    rw [← hn]
    exact walk_yes n.toNat v es w hv hb
  · exact walk_net n v es w hv hlen hc
end Go.Proofs.Ytkklgnfimkojlaa.CSays
