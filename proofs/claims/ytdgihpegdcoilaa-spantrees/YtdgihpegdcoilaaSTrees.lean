/-
  The law felllaw.SpanTrees, walked.
-/
import Derived.Test.YtdgihpegdcoilaaKU
import Derived.Test.YtdgihpegdcoilaaKV
import Derived.Test.YtdgihpegdcoilaaNB
import Derived.Test.YtdgihpegdcoilaaIE
namespace Go.Proofs.Ytdgihpegdcoilaa.STrees
open Go.RowKit
open Nm Kk
attribute [local go_sem ↓] Go.wp_at_zero Go.wp_at_succ

set_option maxRecDepth 100000 in
set_option maxHeartbeats 8000000 in
theorem walk_net (n : Int) (v : Value) (es : List E) (w : World) (hv : SlE w v es) (hlen : es.length ≤ 9223372036854775807) (hc : nck n es ≠ 0) :
    Calls Try.prog 4 #[.agg #[.int .i64 n, v]] w fun e w' => e = .returned (.bool true) ∧ Below w.heap.size w w' := by
  obtain ⟨a0, c0, rfl⟩ := hv.val
  have HV : Hid _ := hv
  have HC : Hid _ := hc
  obtain ⟨k1, hk1⟩ : ∃ k, nck n es = k := ⟨_, rfl⟩
  have HK : Hid _ := hk1
  have HD : Hid (∀ W, SlE W (.slice a0 es.length c0) es → Calls Try.prog 17 #[.agg #[.int .i64 n, .slice a0 es.length c0]] W fun e w' => e = .returned (.tuple #[.slice none 0 0, .int .i64 k1]) ∧ Below W.heap.size W w') := fun W hW => by rw [← hk1]; exact tree_no n _ es W hW hlen hc
  have hk0 : k1 ≠ 0 := by rw [← hk1]; exact hc
  have z1 : (k1 == 0) = false := by simp [hk0]
  have z3 : (k1 == k1) = true := by simp
  have z4 : (k1 != 0) = true := by simp [hk0]
  clear hv hc hk1 hk0
  go_enter Try.func4, Try.ntmps4
  go_wp2_with fail
  have P0 : Hid _ := box2_new w n (.slice a0 es.length c0) 35
  have B0 : Hid (Below w.heap.size w (w.alloc (.cells #[.int .i64 n, .slice a0 es.length c0] 35))) := balloc (Below.refl _ _) _
  generalize w.alloc (.cells #[.int .i64 n, .slice a0 es.length c0] 35) = W0 at *
  refine (HD.out W0 (HV.out.below B0.out)).mono ?_
  rintro e w1 ⟨rfl, b1⟩
  have P1 : Hid _ := P0.out.below b1
  have B1 : Hid (Below w.heap.size w w1) := bthen B0.out b1
  obtain ⟨p0, p1⟩ := P1.out
  clear b1
  go_wp2_with fail
  refine (rnet_any n _ es w1 (HV.out.below B1.out) hlen).mono ?_
  rintro e w2 ⟨rfl, b2⟩
  rw [HK.out]
  have B2 : Hid (Below w.heap.size w w2) := bthen B1.out b2
  clear b2
  go_wp2_with fail
  go_ret
  exact ⟨rfl, B2.out⟩
set_option maxRecDepth 100000 in
set_option maxHeartbeats 8000000 in
theorem walk_yes (n : Nat) (v : Value) (es : List E) (w : World) (hv : SlE w v es) (hg : Gn n es) :
    Calls Try.prog 4 #[.agg #[.int .i64 n, v]] w fun e w' => e = .returned (.bool true) ∧ Below w.heap.size w w' := by
  obtain ⟨a0, c0, rfl⟩ := hv.val
  have HV : Hid _ := hv
  have HG : Hid _ := hg
  have HC : Hid _ := nck_zero.2 hg
  have hl := hg.len
  have hlt : Hid ((ints (tree es)).length ≤ 600) := by
    unfold Hid; rw [ints_length]; unfold tree
    have := kru_length es (ids es)
    rw [ids_length] at this
    omega
  clear hv hg
  go_enter Try.func4, Try.ntmps4
  go_wp2_with fail
  have P0 : Hid _ := box2_new w (n : Int) (.slice a0 es.length c0) 35
  have B0 : Hid (Below w.heap.size w (w.alloc (.cells #[.int .i64 (n : Int), .slice a0 es.length c0] 35))) := balloc (Below.refl _ _) _
  generalize w.alloc (.cells #[.int .i64 (n : Int), .slice a0 es.length c0] 35) = W0 at *
  refine (tree_yes n _ es W0 (HV.out.below B0.out) HG.out).mono ?_
  rintro e w1 ⟨u, rfl, s1, b1⟩
  have S1 : Hid _ := s1
  have P1 : Hid _ := P0.out.below b1
  have B1 : Hid (Below w.heap.size w w1) := bthen B0.out b1
  obtain ⟨p0, p1⟩ := P1.out
  clear b1 s1
  go_wp2_with fail
  clear p0 p1
  refine (rnet_any n _ es w1 (HV.out.below B1.out) (by omega)).mono ?_
  rintro e w2 ⟨rfl, b2⟩
  rw [HC.out]
  have S2 : Hid _ := S1.out.below b2
  have P2 : Hid _ := P1.out.below b2
  obtain ⟨p0, p1⟩ := P2.out
  have B2 : Hid (Below w.heap.size w w2) := bthen B1.out b2
  clear b2 S1 B1
  go_wp2_with fail
  clear p0 p1
  refine (rtree_any n _ es w2 (HV.out.below B2.out) HG.out).mono ?_
  rintro e w3 ⟨u3, rfl, s3, b3⟩
  have S3 : Hid _ := S2.out.below b3
  have T3 : Hid _ := s3
  have B3 : Hid (Below w.heap.size w w3) := bthen B2.out b3
  clear b3 s3 S2 B2
  go_wp2_with fail
  refine (iequal_yes u u3 _ w3 S3.out.sl T3.out.sl (by have := hlt.out; omega)).mono ?_
  rintro e w4 ⟨rfl, b4⟩
  have B4 : Hid (Below w.heap.size w w4) := bthen B3.out b4
  go_wp2_with fail
  go_ret
  exact ⟨rfl, B4.out⟩
theorem walk (n : Int) (v : Value) (es : List E) (w : World) (hv : SlE w v es) (hlen : es.length ≤ 9223372036854775807) :
    Calls Try.prog 4 #[.agg #[.int .i64 n, v]] w fun e w' => e = .returned (.bool true) ∧ Below w.heap.size w w' := by
  by_cases hc : nck n es = 0
  · have hg := nck_zero.1 hc
    obtain ⟨m, rfl⟩ := Int.eq_ofNat_of_zero_le (show 0 ≤ n by have := hg.n1; omega)
    exact walk_yes m v es w hv hg
  · exact walk_net n v es w hv hlen hc
end Go.Proofs.Ytdgihpegdcoilaa.STrees
