/-
  The law felllaw.FloydReaches, walked.
-/
import Derived.Test.YtlmichnnpameeaaRA
import Derived.Test.YtlmichnnpameeaaRD
namespace Go.Proofs.Ytlmichnnpameeaa.FReaches
open Go.RowKit
open Nm Wm Dm Bm Fm Fl
attribute [local go_sem ↓] Go.wp_at_zero Go.wp_at_succ

set_option maxRecDepth 100000 in
set_option maxHeartbeats 8000000 in
theorem walk_net (n : Int) (v : Value) (es : List E) (w : World) (hv : SlE w v es) (hlen : es.length ≤ 9223372036854775807) (hc : nck n es ≠ 0) :
    Calls Try.prog 5 #[.agg #[.int .i64 n, v]] w fun e w' => e = .returned (.bool true) ∧ Below w.heap.size w w' := by
  obtain ⟨a0, c0, rfl⟩ := hv.val
  have HV : Hid _ := hv
  have HC : Hid _ := hc
  obtain ⟨k1, hk1⟩ : ∃ k, nck n es = k := ⟨_, rfl⟩
  have HK : Hid _ := hk1
  have z3 : (k1 == k1) = true := by simp
  have z4 : (k1 != 0) = true := by rw [← hk1]; simp [hc]
  clear hv hc hk1
  go_enter Try.func5, Try.ntmps5
  go_wp2_with fail
  have P0 : Hid _ := box2_new w (n : Int) (.slice a0 es.length c0) 24
  have B0 : Hid (Below w.heap.size w (w.alloc (.cells #[.int .i64 n, .slice a0 es.length c0] 24))) := balloc (Below.refl _ _) _
  generalize w.alloc (.cells #[.int .i64 n, .slice a0 es.length c0] 24) = W0 at *
  refine (freach_net n _ es W0 (HV.out.below B0.out) hlen HC.out).mono ?_
  rintro e w1 ⟨rfl, b1⟩
  rw [HK.out]
  have P1 : Hid _ := P0.out.below b1
  have B1 : Hid (Below w.heap.size w w1) := bthen B0.out b1
  obtain ⟨p0, p1⟩ := P1.out
  clear b1 P0 B0
  go_wp2_with fail
  clear p0 p1
  refine (rnet_any n _ es w1 (HV.out.below B1.out) hlen).mono ?_
  rintro e w2 ⟨rfl, b2⟩
  rw [HK.out]
  have B2 : Hid (Below w.heap.size w w2) := bthen B1.out b2
  clear b2
  go_wp2_with fail
  go_ret
  exact ⟨rfl, B2.out⟩
set_option maxRecDepth 100000 in
set_option maxHeartbeats 8000000 in
theorem walk_yes (N : Nat) (v : Value) (es : List E) (w : World) (hv : SlE w v es) (hb : Rnt N es) :
    Calls Try.prog 5 #[.agg #[.int .i64 N, v]] w fun e w' => e = .returned (.bool true) ∧ Below w.heap.size w w' := by
  obtain ⟨a0, c0, rfl⟩ := hv.val
  have HV : Hid _ := hv
  have HB : Hid _ := hb
  have HC : Hid _ := hb.nck
  have hn64 := hb.n64
  have hlen : es.length ≤ 9223372036854775807 := by have := hb.len; omega
  clear hv hb
  go_enter Try.func5, Try.ntmps5
  go_wp2_with fail
  have P0 : Hid _ := box2_new w (N : Int) (.slice a0 es.length c0) 24
  have B0 : Hid (Below w.heap.size w (w.alloc (.cells #[.int .i64 N, .slice a0 es.length c0] 24))) := balloc (Below.refl _ _) _
  generalize w.alloc (.cells #[.int .i64 N, .slice a0 es.length c0] 24) = W0 at *
  refine (freach_yes N _ es W0 (HV.out.below B0.out) HB.out).mono ?_
  rintro e w1 ⟨R, Gs, rfl, t1, b1⟩
  have T1 : Hid _ := t1
  have P1 : Hid _ := P0.out.below b1
  have B1 : Hid (Below w.heap.size w w1) := bthen B0.out b1
  obtain ⟨p0, p1⟩ := P1.out
  clear b1 P0 B0 t1
  go_wp2_with fail
  clear p0 p1
  refine (rnet_any N _ es w1 (HV.out.below B1.out) hlen).mono ?_
  rintro e w2 ⟨rfl, b2⟩
  rw [HC.out]
  have T2 : Hid _ := T1.out.below b2
  have P2 : Hid _ := P1.out.below b2
  have B2 : Hid (Below w.heap.size w w2) := bthen B1.out b2
  obtain ⟨p0, p1⟩ := P2.out
  clear b2 P1 B1 T1
  go_wp2_with fail
  clear p0 p1
  go_loopw [36] (fun z wr => ∃ k : Nat, z = .int .i64 k ∧ k ≤ N ∧ Below w2.heap.size w2 wr) (fun z _ => N - (intOf z).toNat)
  case atStart => exact ⟨0, rfl, Nat.zero_le _, Below.refl _ _⟩
  case round =>
    obtain ⟨k, rfl, hk, hbr⟩ := hrel
    have BR : Hid (Below w2.heap.size w2 wr) := hbr
    clear hbr
    by_cases hlt : k < N
    · have hki : (k : Int) < (N : Int) := by omega
      have TR : Hid _ := T2.out.below BR.out
      have h1 := TR.out.head k hlt
      obtain ⟨p0, p1⟩ := P2.out.below BR.out
      go_wp2_with fail
      clear p0 p1 h1
      refine (rreach_any N k _ es wr ((HV.out.below B2.out).below BR.out) HB.out hlt).mono ?_
      rintro e w3 ⟨G, rfl, u3, b3⟩
      have U3 : Hid _ := u3
      have T3 : Hid _ := TR.out.below b3
      have B3 : Hid (Below w2.heap.size w2 w3) := bthen BR.out b3
      clear b3 u3
      go_wp2_with fail
      refine (bequal_yes _ _ N _ _ w3 (T3.out.row k hlt) U3.out (fun i hi => (fwb_rrd (edge := fun _ => true) HB.out.inn k hi).symm) hn64).mono ?_
      rintro e w4 ⟨rfl, b4⟩
      have B4 : Hid (Below w2.heap.size w2 w4) := bthen B3.out b4
      clear b4
      go_wp2_with fail
      go_roundw
      case rel => exact ⟨k + 1, by go_num, by omega, B4.out⟩
      case measure => simp [intOf]; omega
    · obtain rfl : k = N := by omega
      go_wp2_with fail
      go_ret
      exact ⟨rfl, bthen B2.out BR.out⟩
theorem walk (n : Int) (v : Value) (es : List E) (w : World) (hv : SlE w v es) (hlen : es.length ≤ 9223372036854775807) :
    Calls Try.prog 5 #[.agg #[.int .i64 n, v]] w fun e w' => e = .returned (.bool true) ∧ Below w.heap.size w w' := by
  by_cases hc : nck n es = 0
  · obtain ⟨hb, hn⟩ := bn_of hc
    rw [← hn]
    exact walk_yes n.toNat v es w hv hb
  · exact walk_net n v es w hv hlen hc
end Go.Proofs.Ytlmichnnpameeaa.FReaches
