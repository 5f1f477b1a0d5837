/-
  The law felllaw.FloydWides, walked.
-/
import Derived.Test.YtlmichnnpameeaaRB
namespace Go.Proofs.Ytlmichnnpameeaa.FWides
open Go.RowKit
open Nm Wm Dm Bm Fm Fl
attribute [local go_sem ↓] Go.wp_at_zero Go.wp_at_succ

theorem wide_tbl {N : Nat} {es : List E} (hb : Rnt N es) : tbl N (fun s => upd (dwd N es s es.length) s far) = tbl N (fww es N) := by
  unfold tbl
  refine List.map_congr_left (fun s hs => lst_congr (fun u hu => ?_))
  have hs : s < N := by simpa using hs
  dsimp only
  by_cases e : u = s
  · subst e; rw [upd_same, fww_self hb]
  · rw [upd_other _ _ e, dwd_is hb s hu (fun h => e h.symm)]
set_option maxRecDepth 100000 in
set_option maxHeartbeats 8000000 in
theorem walk_net (n : Int) (v : Value) (es : List E) (w : World) (hv : SlE w v es) (hlen : es.length ≤ 9223372036854775807) (hc : nck n es ≠ 0) :
    Calls Try.prog 4 #[.agg #[.int .i64 n, v]] w fun e w' => e = .returned (.bool true) ∧ Below w.heap.size w w' := by
  obtain ⟨a0, c0, rfl⟩ := hv.val
  have HV : Hid _ := hv
  have HC : Hid _ := hc
  obtain ⟨k1, hk1⟩ : ∃ k, nck n es = k := ⟨_, rfl⟩
  have HK : Hid _ := hk1
  have z3 : (k1 == k1) = true := by simp
  have z4 : (k1 != 0) = true := by rw [← hk1]; simp [hc]
  clear hv hc hk1
  go_enter Try.func4, Try.ntmps4
  go_wp2_with fail
  have P0 : Hid _ := box2_new w (n : Int) (.slice a0 es.length c0) 24
  have B0 : Hid (Below w.heap.size w (w.alloc (.cells #[.int .i64 n, .slice a0 es.length c0] 24))) := balloc (Below.refl _ _) _
  generalize w.alloc (.cells #[.int .i64 n, .slice a0 es.length c0] 24) = W0 at *
  refine (fwide_net n _ es W0 (HV.out.below B0.out) hlen HC.out).mono ?_
  rintro e w1 ⟨rfl, b1⟩
  rw [HK.out]
  have P1 : Hid _ := P0.out.below b1
  have B1 : Hid (Below w.heap.size w w1) := bthen B0.out b1
  obtain ⟨p0, p1⟩ := P1.out
  clear b1 P0 B0
  go_wp2_with fail
  clear p0 p1
  refine (rnet_any n _ es w1 (HV.out.below B1.out) hlen).mono ?_
  rintro e w2 ⟨rfl, b2⟩
  rw [HK.out]
  have B2 : Hid (Below w.heap.size w w2) := bthen B1.out b2
  clear b2
  go_wp2_with fail
  go_ret
  exact ⟨rfl, B2.out⟩
set_option maxRecDepth 100000 in
set_option maxHeartbeats 8000000 in
theorem walk_yes (N : Nat) (v : Value) (es : List E) (w : World) (hv : SlE w v es) (hb : Rnt N es) :
    Calls Try.prog 4 #[.agg #[.int .i64 N, v]] w fun e w' => e = .returned (.bool true) ∧ Below w.heap.size w w' := by
  obtain ⟨a0, c0, rfl⟩ := hv.val
  have HV : Hid _ := hv
  have HB : Hid _ := hb
  have HC : Hid _ := hb.nck
  have hn64 := hb.n64
  have hlen : es.length ≤ 9223372036854775807 := by have := hb.len; omega
  clear hv hb
  go_enter Try.func4, Try.ntmps4
  go_wp2_with fail
  have P0 : Hid _ := box2_new w (N : Int) (.slice a0 es.length c0) 24
  have B0 : Hid (Below w.heap.size w (w.alloc (.cells #[.int .i64 N, .slice a0 es.length c0] 24))) := balloc (Below.refl _ _) _
  generalize w.alloc (.cells #[.int .i64 N, .slice a0 es.length c0] 24) = W0 at *
  refine (fwide_yes N _ es W0 (HV.out.below B0.out) HB.out).mono ?_
  rintro e w1 ⟨R, Gs, rfl, t1, b1⟩
  have T1 : Hid _ := t1
  have P1 : Hid _ := P0.out.below b1
  have B1 : Hid (Below w.heap.size w w1) := bthen B0.out b1
  obtain ⟨p0, p1⟩ := P1.out
  clear b1 P0 B0 t1
  go_wp2_with fail
  clear p0 p1
  refine (rnet_any N _ es w1 (HV.out.below B1.out) hlen).mono ?_
  rintro e w2 ⟨rfl, b2⟩
  rw [HC.out]
  have T2 : Hid _ := T1.out.below b2
  have P2 : Hid _ := P1.out.below b2
  have B2 : Hid (Below w.heap.size w w2) := bthen B1.out b2
  obtain ⟨p0, p1⟩ := P2.out
  clear b2 P1 B1 T1
  go_wp2_with fail
  clear p0 p1
  refine (rwide_any N _ es w2 (HV.out.below B2.out) HB.out).mono ?_
  rintro e w3 ⟨a3, c3, rfl, t3, b3⟩
  have S3 : Hid _ := t3
  have T3 : Hid _ := (T2.out.below b3).slt
  have B3 : Hid (Below w.heap.size w w3) := bthen B2.out b3
  clear b3 t3
  go_wp2_with fail
  refine (sameRows_yes _ _ (tbl N (fww es N)) w3 T3.out (by rw [← wide_tbl HB.out]; exact S3.out) (by rw [tbl_length]; omega) (fun i hi => by rw [tbl_length] at hi; rw [tbl_at hi, lst_length]; omega)).mono ?_
  rintro e w4 ⟨rfl, b4⟩
  have B4 : Hid (Below w.heap.size w w4) := bthen B3.out b4
  clear b4
  go_wp2_with fail
  go_ret
  exact ⟨rfl, B4.out⟩
theorem walk (n : Int) (v : Value) (es : List E) (w : World) (hv : SlE w v es) (hlen : es.length ≤ 9223372036854775807) :
    Calls Try.prog 4 #[.agg #[.int .i64 n, v]] w fun e w' => e = .returned (.bool true) ∧ Below w.heap.size w w' := by
  by_cases hc : nck n es = 0
  · obtain ⟨hb, hn⟩ := bn_of hc
    rw [← hn]
    exact walk_yes n.toNat v es w hv hb
  · exact walk_net n v es w hv hlen hc
end Go.Proofs.Ytlmichnnpameeaa.FWides
