/-
  The law felllaw.FloydAlls, walked.
-/
import Derived.Test.YtlmichnnpameeaaFJ
import Derived.Test.YtlmichnnpameeaaJG
namespace Go.Proofs.Ytlmichnnpameeaa.FAlls
open Go.RowKit
open Nm Wm Dm Bm
attribute [local go_sem ↓] Go.wp_at_zero Go.wp_at_succ

set_option maxRecDepth 100000 in
set_option maxHeartbeats 8000000 in
theorem walk_net (n : Int) (v : Value) (es : List E) (w : World) (hv : SlE w v es) (hlen : es.length ≤ 9223372036854775807) (hc : nck n es ≠ 0) :
    Calls Try.prog 3 #[.agg #[.int .i64 n, v]] w fun e w' => e = .returned (.bool true) ∧ Below w.heap.size w w' := by
  obtain ⟨a0, c0, rfl⟩ := hv.val
  have HV : Hid _ := hv
  have HC : Hid _ := hc
  obtain ⟨k1, hk1⟩ : ∃ k, nck n es = k := ⟨_, rfl⟩
  have HK : Hid _ := hk1
  have z3 : (k1 == k1) = true := by simp
  clear hv hc hk1
  go_enter Try.func3, Try.ntmps3
  go_wp2_with fail
  have P0 : Hid _ := box2_new w (n : Int) (.slice a0 es.length c0) 24
  have B0 : Hid (Below w.heap.size w (w.alloc (.cells #[.int .i64 n, .slice a0 es.length c0] 24))) := balloc (Below.refl _ _) _
  generalize w.alloc (.cells #[.int .i64 n, .slice a0 es.length c0] 24) = W0 at *
  refine (fall_net n _ es W0 (HV.out.below B0.out) hlen HC.out).mono ?_
  rintro e w1 ⟨rfl, b1⟩
  rw [HK.out]
  have P1 : Hid _ := P0.out.below b1
  have B1 : Hid (Below w.heap.size w w1) := bthen B0.out b1
  obtain ⟨p0, p1⟩ := P1.out
  clear b1 P0 B0
  go_wp2_with fail
  clear p0 p1
  refine (rall_net n _ es w1 (HV.out.below B1.out) hlen HC.out).mono ?_
  rintro e w2 ⟨rfl, b2⟩
  rw [HK.out]
  have B2 : Hid (Below w.heap.size w w2) := bthen B1.out b2
  clear b2
  go_wp2_with fail
  refine (sameRows_yes _ _ [] w2 (.no none 0 rfl rfl) (.no none 0 rfl rfl) (by simp) (fun i hi => absurd hi (by simp))).mono ?_
  rintro e w3 ⟨rfl, b3⟩
  have B3 : Hid (Below w.heap.size w w3) := bthen B2.out b3
  clear b3
  go_wp2_with fail
  go_ret
  exact ⟨rfl, B3.out⟩
set_option maxRecDepth 100000 in
set_option maxHeartbeats 8000000 in
theorem walk_no (N : Nat) (v : Value) (es : List E) (w : World) (hv : SlE w v es) (hb : Rnt N es) (hs : (rns es (fun _ => 0) N).s ≠ -1) :
    Calls Try.prog 3 #[.agg #[.int .i64 N, v]] w fun e w' => e = .returned (.bool true) ∧ Below w.heap.size w w' := by
  obtain ⟨a0, c0, rfl⟩ := hv.val
  have HV : Hid _ := hv
  have HB : Hid _ := hb
  have HS : Hid _ := hs
  clear hv hb hs
  go_enter Try.func3, Try.ntmps3
  go_wp2_with fail
  have P0 : Hid _ := box2_new w (N : Int) (.slice a0 es.length c0) 24
  have B0 : Hid (Below w.heap.size w (w.alloc (.cells #[.int .i64 N, .slice a0 es.length c0] 24))) := balloc (Below.refl _ _) _
  generalize w.alloc (.cells #[.int .i64 N, .slice a0 es.length c0] 24) = W0 at *
  refine (fall_no N _ es W0 (HV.out.below B0.out) HB.out HS.out).mono ?_
  rintro e w1 ⟨rfl, b1⟩
  have P1 : Hid _ := P0.out.below b1
  have B1 : Hid (Below w.heap.size w w1) := bthen B0.out b1
  obtain ⟨p0, p1⟩ := P1.out
  clear b1 P0 B0
  go_wp2_with fail
  clear p0 p1
  refine (rall_no N _ es w1 (HV.out.below B1.out) HB.out HS.out).mono ?_
  rintro e w2 ⟨rfl, b2⟩
  have B2 : Hid (Below w.heap.size w w2) := bthen B1.out b2
  clear b2
  go_wp2_with fail
  refine (sameRows_yes _ _ [] w2 (.no none 0 rfl rfl) (.no none 0 rfl rfl) (by simp) (fun i hi => absurd hi (by simp))).mono ?_
  rintro e w3 ⟨rfl, b3⟩
  have B3 : Hid (Below w.heap.size w w3) := bthen B2.out b3
  clear b3
  go_wp2_with fail
  go_ret
  exact ⟨rfl, B3.out⟩
set_option maxRecDepth 100000 in
set_option maxHeartbeats 8000000 in
theorem walk_yes (N : Nat) (v : Value) (es : List E) (w : World) (hv : SlE w v es) (hb : Rnt N es) (hs : (rns es (fun _ => 0) N).s = -1) :
    Calls Try.prog 3 #[.agg #[.int .i64 N, v]] w fun e w' => e = .returned (.bool true) ∧ Below w.heap.size w w' := by
  obtain ⟨a0, c0, rfl⟩ := hv.val
  have HV : Hid _ := hv
  have HB : Hid _ := hb
  have HS : Hid _ := hs
  have hn64 := hb.n64
  clear hv hb hs
  go_enter Try.func3, Try.ntmps3
  go_wp2_with fail
  have P0 : Hid _ := box2_new w (N : Int) (.slice a0 es.length c0) 24
  have B0 : Hid (Below w.heap.size w (w.alloc (.cells #[.int .i64 N, .slice a0 es.length c0] 24))) := balloc (Below.refl _ _) _
  generalize w.alloc (.cells #[.int .i64 N, .slice a0 es.length c0] 24) = W0 at *
  refine (fall_yes N _ es W0 (HV.out.below B0.out) HB.out HS.out).mono ?_
  rintro e w1 ⟨R1, rfl, t1, b1⟩
  have P1 : Hid _ := P0.out.below b1
  have B1 : Hid (Below w.heap.size w w1) := bthen B0.out b1
  have S1 : Hid _ := t1
  clear t1
  obtain ⟨p0, p1⟩ := P1.out
  clear b1 P0 B0
  go_wp2_with fail
  clear p0 p1
  refine (rall_yes N _ es w1 (HV.out.below B1.out) HB.out HS.out).mono ?_
  rintro e w2 ⟨a2, c2, rfl, t2, b2⟩
  have B2 : Hid (Below w.heap.size w w2) := bthen B1.out b2
  have S2 : Hid _ := S1.out.below b2
  have T2 : Hid _ := t2
  clear t2
  clear b2
  go_wp2_with fail
  refine (sameRows_yes _ _ (tbl N (fun s => spr es (Dm.start s) (N - 1))) w2 S2.out T2.out (by rw [tbl_length]; omega) (fun i hi => by rw [tbl_length] at hi; rw [tbl_at hi, lst_length]; omega)).mono ?_
  rintro e w3 ⟨rfl, b3⟩
  have B3 : Hid (Below w.heap.size w w3) := bthen B2.out b3
  clear b3
  go_wp2_with fail
  go_ret
  exact ⟨rfl, B3.out⟩
theorem walk (n : Int) (v : Value) (es : List E) (w : World) (hv : SlE w v es) (hlen : es.length ≤ 9223372036854775807) :
    Calls Try.prog 3 #[.agg #[.int .i64 n, v]] w fun e w' => e = .returned (.bool true) ∧ Below w.heap.size w w' := by
  by_cases hc : nck n es = 0
  · obtain ⟨hb, hn⟩ := bn_of hc
    rw [← hn]
    by_cases hs : (rns es (fun _ => 0) n.toNat).s = -1
    · exact walk_yes n.toNat v es w hv hb hs
    · exact walk_no n.toNat v es w hv hb hs
  · exact walk_net n v es w hv hlen hc
end Go.Proofs.Ytlmichnnpameeaa.FAlls
