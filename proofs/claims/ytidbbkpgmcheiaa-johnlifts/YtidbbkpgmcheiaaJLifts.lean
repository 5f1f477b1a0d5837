/-
  The law JohnLifts.
-/
import Derived.Test.YtidbbkpgmcheiaaBD
import Derived.Test.YtidbbkpgmcheiaaBE
import Derived.Test.YtidbbkpgmcheiaaNB
namespace Go.Proofs.Ytidbbkpgmcheiaa
open Go.RowKit
open Nm Wm Dm Bm
attribute [local go_sem ↓] Go.wp_at_zero Go.wp_at_succ

namespace JLifts
set_option maxRecDepth 100000 in
set_option maxHeartbeats 16000000 in
theorem walk_net (n : Int) (v : Value) (es : List E) (w : World) (hv : SlE w v es) (hlen : es.length ≤ 9223372036854775807) (hc : nck n es ≠ 0) :
    Calls Try.prog 5 #[.agg #[.int .i64 n, v]] w fun e w' => e = .returned (.bool true) ∧ Below w.heap.size w w' := by
  obtain ⟨a0, c0, rfl⟩ := hv.val
  have HV : Hid _ := hv
  obtain ⟨k, hk⟩ : ∃ k, nck n es = k := ⟨_, rfl⟩
  have HK : Hid _ := hk
  have HC : Hid _ := hc
  have z1 : (k == 0) = false := by rw [← hk]; simp [hc]
  have z2 : (k != 0) = true := by rw [← hk]; simp [hc]
  have z3 : (k == k) = true := by simp
  clear hv hc hk
  go_enter Try.func5, Try.ntmps5
  go_wp2_with fail
  have P0 : Hid _ := box2_new w n (.slice a0 es.length c0) 24
  have B0 : Hid (Below w.heap.size w (w.alloc (.cells #[.int .i64 n, .slice a0 es.length c0] 24))) := balloc (Below.refl _ _) _
  generalize w.alloc (.cells #[.int .i64 n, .slice a0 es.length c0] 24) = W0 at *
  refine (lift_net n _ es W0 (HV.out.below B0.out) hlen HC.out).mono ?_
  rintro e w1 ⟨rfl, b1⟩
  rw [HK.out]
  have B1 : Hid (Below w.heap.size w w1) := bthen B0.out b1
  obtain ⟨p0, p1⟩ := P0.out.below b1
  clear b1
  go_wp2_with fail
  clear p0 p1
  refine (rnet_any n _ es w1 (HV.out.below B1.out) hlen).mono ?_
  rintro e w2 ⟨rfl, b2⟩
  rw [HK.out]
  go_wp2_with fail
  go_ret
  exact ⟨rfl, bthen B1.out b2⟩
set_option maxRecDepth 100000 in
set_option maxHeartbeats 16000000 in
theorem walk_yes (N : Nat) (v : Value) (es : List E) (w : World) (hv : SlE w v es) (hb : Rnt N es) (hs : (rns es (fun _ => 0) N).s = -1) :
    Calls Try.prog 5 #[.agg #[.int .i64 N, v]] w fun e w' => e = .returned (.bool true) ∧ Below w.heap.size w w' := by
  obtain ⟨a0, c0, rfl⟩ := hv.val
  have HV : Hid _ := hv
  have HB : Hid _ := hb
  have HC : Hid _ := hb.nck
  have HSK : Hid _ := hs
  have hn1 := hb.n1
  have hn64 := hb.n64
  have hlen : es.length ≤ 9223372036854775807 := by have := hb.len; omega
  have HF : Hid (Fx N es (fun _ => 0)) := (fx_iff hb (fun v hv => (zero_zero N v hv).2)).2 hs
  clear hv hb hs
  go_enter Try.func5, Try.ntmps5
  go_wp2_with fail
  have P0 : Hid _ := box2_new w (N : Int) (.slice a0 es.length c0) 24
  have B0 : Hid (Below w.heap.size w (w.alloc (.cells #[.int .i64 N, .slice a0 es.length c0] 24))) := balloc (Below.refl _ _) _
  generalize w.alloc (.cells #[.int .i64 N, .slice a0 es.length c0] 24) = W0 at *
  refine (lift_yes N _ es W0 (HV.out.below B0.out) HB.out HSK.out).mono ?_
  rintro e w1 ⟨G, rfl, hG, u1, b1⟩
  have U1 : Hid _ := u1
  clear u1 hG
  have B1 : Hid (Below w.heap.size w w1) := bthen B0.out b1
  have P1 : Hid _ := P0.out.below b1
  obtain ⟨p0, p1⟩ := P1.out
  clear b1 P0 B0
  go_wp2_with fail
  clear p0 p1
  refine (rnet_any N _ es w1 (HV.out.below B1.out) hlen).mono ?_
  rintro e w2 ⟨rfl, b2⟩
  rw [HC.out]
  have B2 : Hid (Below w.heap.size w w2) := bthen B1.out b2
  have P2 : Hid _ := P1.out.below b2
  obtain ⟨p0, p1⟩ := P2.out
  have U2 : Hid _ := U1.out.below b2
  clear b2 P1 B1
  go_wp2_with fail
  clear p0 p1
  refine (ranybad_no N _ es w2 (HV.out.below B2.out) HB.out HF.out).mono ?_
  rintro e w3 ⟨rfl, b3⟩
  have B3 : Hid (Below w.heap.size w w3) := bthen B2.out b3
  have P3 : Hid _ := P2.out.below b3
  have U3 : Hid _ := U2.out.below b3
  obtain ⟨p0, p1⟩ := P3.out
  clear b3 P2 B2
  go_wp2_with fail
  clear p0 p1
  refine (rlift_any N _ es w3 (HV.out.below B3.out) HB.out).mono ?_
  rintro e w4 ⟨g4, cp4, rfl, r4, b4⟩
  have B4 : Hid (Below w.heap.size w w4) := bthen B3.out b4
  have S4 : Hid (SlI w4 (.slice (some ⟨G, 0, none⟩) N N) (lst N (rns es (fun _ => 0) N).d)) := (U3.out.below b4).sl
  have T4 : Hid (SlI w4 (.slice (some ⟨g4, 0, none⟩) N cp4) (lst N (rns es (fun _ => 0) N).d)) := by
    have := rw_sl r4
    rw [lst_congr ((rns_yes HB.out (fun v hv => (zero_zero N v hv).2) HSK.out).spr HB.out.inn (fun v hv => (zero_zero N v hv).2) (by omega))] at this
    exact this
  clear b4 r4
  go_wp2_with fail
  refine (iequal_yes _ _ _ w4 S4.out T4.out (by rw [lst_length]; omega)).mono ?_
  rintro e w5 ⟨rfl, b5⟩
  go_wp2_with fail
  go_ret
  exact ⟨rfl, bthen B4.out b5⟩
set_option maxRecDepth 100000 in
set_option maxHeartbeats 16000000 in
theorem walk_no (N : Nat) (v : Value) (es : List E) (w : World) (hv : SlE w v es) (hb : Rnt N es) (hs : (rns es (fun _ => 0) N).s ≠ -1) :
    Calls Try.prog 5 #[.agg #[.int .i64 N, v]] w fun e w' => e = .returned (.bool true) ∧ Below w.heap.size w w' := by
  obtain ⟨a0, c0, rfl⟩ := hv.val
  have HV : Hid _ := hv
  have HB : Hid _ := hb
  have HC : Hid _ := hb.nck
  have HSK : Hid _ := hs
  have hn1 := hb.n1
  have hn64 := hb.n64
  have hlen : es.length ≤ 9223372036854775807 := by have := hb.len; omega
  have HF : Hid (¬ Fx N es (fun _ => 0)) := fun h => hs ((fx_iff hb (fun v hv => (zero_zero N v hv).2)).1 h)
  clear hv hb hs
  go_enter Try.func5, Try.ntmps5
  go_wp2_with fail
  have P0 : Hid _ := box2_new w (N : Int) (.slice a0 es.length c0) 24
  have B0 : Hid (Below w.heap.size w (w.alloc (.cells #[.int .i64 N, .slice a0 es.length c0] 24))) := balloc (Below.refl _ _) _
  generalize w.alloc (.cells #[.int .i64 N, .slice a0 es.length c0] 24) = W0 at *
  refine (lift_no N _ es W0 (HV.out.below B0.out) HB.out HSK.out).mono ?_
  rintro e w1 ⟨rfl, b1⟩
  have B1 : Hid (Below w.heap.size w w1) := bthen B0.out b1
  have P1 : Hid _ := P0.out.below b1
  obtain ⟨p0, p1⟩ := P1.out
  clear b1 P0 B0
  go_wp2_with fail
  clear p0 p1
  refine (rnet_any N _ es w1 (HV.out.below B1.out) hlen).mono ?_
  rintro e w2 ⟨rfl, b2⟩
  rw [HC.out]
  have B2 : Hid (Below w.heap.size w w2) := bthen B1.out b2
  have P2 : Hid _ := P1.out.below b2
  obtain ⟨p0, p1⟩ := P2.out
  clear b2 P1 B1
  go_wp2_with fail
  clear p0 p1
  refine (ranybad_yes N _ es w2 (HV.out.below B2.out) HB.out HF.out).mono ?_
  rintro e w3 ⟨rfl, b3⟩
  go_wp2_with fail
  go_ret
  exact ⟨rfl, bthen B2.out b3⟩
theorem walk (n : Int) (v : Value) (es : List E) (w : World) (hv : SlE w v es) (hlen : es.length ≤ 9223372036854775807) :
    Calls Try.prog 5 #[.agg #[.int .i64 n, v]] w fun e w' => e = .returned (.bool true) ∧ Below w.heap.size w w' := by
  by_cases hc : nck n es = 0
  · obtain ⟨hb, hn⟩ := bn_of hc
    rw [← hn]
    by_cases hs : (rns es (fun _ => 0) n.toNat).s = -1
    · exact walk_yes n.toNat v es w hv hb hs
    · exact walk_no n.toNat v es w hv hb hs
  · exact walk_net n v es w hv hlen hc
end JLifts
end Go.Proofs.Ytidbbkpgmcheiaa
