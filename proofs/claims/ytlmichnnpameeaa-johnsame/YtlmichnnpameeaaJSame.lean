/-
  The law fellkeep.JohnSame, walked.
-/
import Derived.Test.YtlmichnnpameeaaFXk
import Derived.Test.YtlmichnnpameeaaJE
import Derived.BigQuiet
namespace Go.Proofs.Ytlmichnnpameeaa.JSame
open Go.RowKit
open Nm Wm Dm Bm Fm Fl
attribute [local go_sem ↓] Go.wp_at_zero Go.wp_at_succ

theorem dist_good {N : Nat} {es : List E} (hb : Rnt N es) (hs : (rns es (fun _ => 0) N).s = -1) {s : Nat} (hsN : s < N) : (rns es (Dm.start s) N).s = -1 ∧ ∀ v, v < N → (rns es (Dm.start s) N).d v = spr es (Dm.start s) (N - 1) v := by
  have h0 : ∀ v, v < N → Dm.start s v ≤ far := fun v _ => by unfold Dm.start; split <;> decide
  have hl := all_ls hb (good_all hb hs N (Nat.le_refl _)) hsN
  have h1 := rns_no hb h0 hl
  refine ⟨h1, fun v hv => ?_⟩
  exact ((rns_yes hb h0 h1).spr hb.inn h0 (by omega) v hv).symm
set_option maxRecDepth 100000 in
set_option maxHeartbeats 8000000 in
theorem walk_net (n s : Int) (v : Value) (es : List E) (w : World) (hv : SlE w v es) (hlen : es.length ≤ 9223372036854775807) (hc : nck n es ≠ 0) :
    Calls Try.prog 6 #[.agg #[.int .i64 n, v], .int .i64 s] w fun e w' => e = .returned (.bool true) ∧ Below w.heap.size w w' := by
  obtain ⟨a0, c0, rfl⟩ := hv.val
  have HV : Hid _ := hv
  obtain ⟨k1, hk1⟩ : ∃ k, nck n es = k := ⟨_, rfl⟩
  have HK : Hid _ := hk1
  have HC : Hid _ := hc
  have z3 : (k1 != k1) = false := by simp
  have z4 : (k1 != 0) = true := by rw [← hk1]; simp [hc]
  clear hk1
  clear hv hc
  go_enter Try.func6, Try.ntmps6
  go_wp2_with fail
  have P0 : Hid _ := box2_new w n (.slice a0 es.length c0) 24
  have B0 : Hid (Below w.heap.size w (w.alloc (.cells #[.int .i64 n, .slice a0 es.length c0] 24))) := balloc (Below.refl _ _) _
  generalize w.alloc (.cells #[.int .i64 n, .slice a0 es.length c0] 24) = W0 at *
  refine (two_any W0).mono ?_
  rintro e w1 ⟨X1, rfl, e1, b1⟩
  have E1 : Hid _ := e1
  have P1 : Hid _ := P0.out.below b1
  have B1 : Hid (Below w.heap.size w w1) := bthen B0.out b1
  clear e1 b1 P0 B0
  go_wp2_with fail
  refine (jall_yes 2 _ _ w1 E1.out rnt_two two_good).mono ?_
  rintro e w2 ⟨R2, rfl, t2, b2⟩
  rw [two_all] at t2
  have T2 : Hid _ := t2
  have P2 : Hid _ := P1.out.below b2
  have B2 : Hid (Below w.heap.size w w2) := bthen B1.out b2
  clear t2 b2 P1 B1 E1
  go_wp2_with fail
  have L3 : Hid _ := lit_two w2 0 5 1099511627776 0
  have b3 : Below w2.heap.size w2 (((w2.alloc (.cells #[.int .i64 0, .int .i64 5] 3)).alloc (.cells #[.int .i64 1099511627776, .int .i64 0] 3)).alloc (.cells #[.slice (some ⟨w2.heap.size, 0, none⟩) 2 2, .slice (some ⟨w2.heap.size + 1, 0, none⟩) 2 2] 41)) := balloc (balloc (balloc (Below.refl _ _) _) _) _
  generalize ((w2.alloc (.cells #[.int .i64 0, .int .i64 5] 3)).alloc (.cells #[.int .i64 1099511627776, .int .i64 0] 3)).alloc (.cells #[.slice (some ⟨w2.heap.size, 0, none⟩) 2 2, .slice (some ⟨w2.heap.size + 1, 0, none⟩) 2 2] 41) = W3 at *
  refine (sameRows_yes _ _ (tbl 2 (two_i 0 5 1099511627776 0)) W3 (T2.out.below b3) L3.out (by rw [tbl_length]; omega) (fun i hi => by rw [tbl_length] at hi; rw [tbl_at hi, lst_length]; omega)).mono ?_
  rintro e w4 ⟨rfl, b4⟩
  have P4 : Hid _ := (P2.out.below b3).below b4
  have B4 : Hid (Below w.heap.size w w4) := bthen (bthen B2.out b3) b4
  obtain ⟨p0, p1⟩ := P4.out
  clear b3 b4 P2 B2 T2 L3
  go_wp2_with fail
  clear p0 p1
  refine (jall_net n _ es w4 (HV.out.below B4.out) hlen HC.out).mono ?_
  rintro e w5 ⟨rfl, b5⟩
  rw [HK.out]
  have P5 : Hid _ := P4.out.below b5
  have B5 : Hid (Below w.heap.size w w5) := bthen B4.out b5
  obtain ⟨p0, p1⟩ := P5.out
  clear b5
  go_wp2_with fail
  clear p0 p1
  refine (fall_net n _ es w5 (HV.out.below B5.out) hlen HC.out).mono ?_
  rintro e w6 ⟨rfl, b6⟩
  rw [HK.out]
  have P6 : Hid _ := P5.out.below b6
  have B6 : Hid (Below w.heap.size w w6) := bthen B5.out b6
  obtain ⟨p0, p1⟩ := P6.out
  clear b6
  go_wp2_with fail
  clear p0 p1
  refine (sameRows_yes _ _ [] w6 (.no none 0 rfl rfl) (.no none 0 rfl rfl) (by simp) (fun i hi => absurd hi (by simp))).mono ?_
  rintro e w7 ⟨rfl, b7⟩
  have P7 : Hid _ := P6.out.below b7
  have B7 : Hid (Below w.heap.size w w7) := bthen B6.out b7
  obtain ⟨p0, p1⟩ := P7.out
  clear b7
  go_wp2_with fail
  clear p0 p1
  refine (bdist_back n s _ es w7 (HV.out.below B7.out) hlen).mono ?_
  rintro e w8 ⟨⟨a8, m8, c8, k8, rfl⟩, b8⟩
  have B8 : Hid (Below w.heap.size w w8) := bthen B7.out b8
  clear b8
  go_wp2_with fail
  go_ret
  exact ⟨rfl, B8.out⟩
set_option maxRecDepth 100000 in
set_option maxHeartbeats 8000000 in
theorem walk_no (N : Nat) (s : Int) (v : Value) (es : List E) (w : World) (hv : SlE w v es) (hb : Rnt N es) (hs : (rns es (fun _ => 0) N).s ≠ -1) :
    Calls Try.prog 6 #[.agg #[.int .i64 N, v], .int .i64 s] w fun e w' => e = .returned (.bool true) ∧ Below w.heap.size w w' := by
  obtain ⟨a0, c0, rfl⟩ := hv.val
  have HV : Hid _ := hv
  have HB : Hid _ := hb
  have HS : Hid _ := hs
  have hlen : es.length ≤ 9223372036854775807 := by have := hb.len; omega
  clear hv hb hs
  go_enter Try.func6, Try.ntmps6
  go_wp2_with fail
  have P0 : Hid _ := box2_new w (N : Int) (.slice a0 es.length c0) 24
  have B0 : Hid (Below w.heap.size w (w.alloc (.cells #[.int .i64 N, .slice a0 es.length c0] 24))) := balloc (Below.refl _ _) _
  generalize w.alloc (.cells #[.int .i64 N, .slice a0 es.length c0] 24) = W0 at *
  refine (two_any W0).mono ?_
  rintro e w1 ⟨X1, rfl, e1, b1⟩
  have E1 : Hid _ := e1
  have P1 : Hid _ := P0.out.below b1
  have B1 : Hid (Below w.heap.size w w1) := bthen B0.out b1
  clear e1 b1 P0 B0
  go_wp2_with fail
  refine (jall_yes 2 _ _ w1 E1.out rnt_two two_good).mono ?_
  rintro e w2 ⟨R2, rfl, t2, b2⟩
  rw [two_all] at t2
  have T2 : Hid _ := t2
  have P2 : Hid _ := P1.out.below b2
  have B2 : Hid (Below w.heap.size w w2) := bthen B1.out b2
  clear t2 b2 P1 B1 E1
  go_wp2_with fail
  have L3 : Hid _ := lit_two w2 0 5 1099511627776 0
  have b3 : Below w2.heap.size w2 (((w2.alloc (.cells #[.int .i64 0, .int .i64 5] 3)).alloc (.cells #[.int .i64 1099511627776, .int .i64 0] 3)).alloc (.cells #[.slice (some ⟨w2.heap.size, 0, none⟩) 2 2, .slice (some ⟨w2.heap.size + 1, 0, none⟩) 2 2] 41)) := balloc (balloc (balloc (Below.refl _ _) _) _) _
  generalize ((w2.alloc (.cells #[.int .i64 0, .int .i64 5] 3)).alloc (.cells #[.int .i64 1099511627776, .int .i64 0] 3)).alloc (.cells #[.slice (some ⟨w2.heap.size, 0, none⟩) 2 2, .slice (some ⟨w2.heap.size + 1, 0, none⟩) 2 2] 41) = W3 at *
  refine (sameRows_yes _ _ (tbl 2 (two_i 0 5 1099511627776 0)) W3 (T2.out.below b3) L3.out (by rw [tbl_length]; omega) (fun i hi => by rw [tbl_length] at hi; rw [tbl_at hi, lst_length]; omega)).mono ?_
  rintro e w4 ⟨rfl, b4⟩
  have P4 : Hid _ := (P2.out.below b3).below b4
  have B4 : Hid (Below w.heap.size w w4) := bthen (bthen B2.out b3) b4
  obtain ⟨p0, p1⟩ := P4.out
  clear b3 b4 P2 B2 T2 L3
  go_wp2_with fail
  clear p0 p1
  refine (jall_no N _ es w4 (HV.out.below B4.out) HB.out HS.out).mono ?_
  rintro e w5 ⟨rfl, b5⟩
  have P5 : Hid _ := P4.out.below b5
  have B5 : Hid (Below w.heap.size w w5) := bthen B4.out b5
  obtain ⟨p0, p1⟩ := P5.out
  clear b5
  go_wp2_with fail
  clear p0 p1
  refine (fall_no N _ es w5 (HV.out.below B5.out) HB.out HS.out).mono ?_
  rintro e w6 ⟨rfl, b6⟩
  have P6 : Hid _ := P5.out.below b6
  have B6 : Hid (Below w.heap.size w w6) := bthen B5.out b6
  obtain ⟨p0, p1⟩ := P6.out
  clear b6
  go_wp2_with fail
  clear p0 p1
  refine (sameRows_yes _ _ [] w6 (.no none 0 rfl rfl) (.no none 0 rfl rfl) (by simp) (fun i hi => absurd hi (by simp))).mono ?_
  rintro e w7 ⟨rfl, b7⟩
  have P7 : Hid _ := P6.out.below b7
  have B7 : Hid (Below w.heap.size w w7) := bthen B6.out b7
  obtain ⟨p0, p1⟩ := P7.out
  clear b7
  go_wp2_with fail
  clear p0 p1
  refine (bdist_back N s _ es w7 (HV.out.below B7.out) hlen).mono ?_
  rintro e w8 ⟨⟨a8, m8, c8, k8, rfl⟩, b8⟩
  have B8 : Hid (Below w.heap.size w w8) := bthen B7.out b8
  clear b8
  go_wp2_with fail
  go_ret
  exact ⟨rfl, B8.out⟩
set_option maxRecDepth 100000 in
set_option maxHeartbeats 8000000 in
theorem walk_arg (N : Nat) (s : Int) (v : Value) (es : List E) (w : World) (hv : SlE w v es) (hb : Rnt N es) (hs : (rns es (fun _ => 0) N).s = -1) (hp : plc (N : Int) s = false) :
    Calls Try.prog 6 #[.agg #[.int .i64 N, v], .int .i64 s] w fun e w' => e = .returned (.bool true) ∧ Below w.heap.size w w' := by
  obtain ⟨a0, c0, rfl⟩ := hv.val
  have HV : Hid _ := hv
  have HB : Hid _ := hb
  have HS : Hid _ := hs
  have hlen : es.length ≤ 9223372036854775807 := by have := hb.len; omega
  have hn64 := hb.n64
  have HP : Hid _ := hp
  clear hv hb hs hp
  go_enter Try.func6, Try.ntmps6
  go_wp2_with fail
  have P0 : Hid _ := box2_new w (N : Int) (.slice a0 es.length c0) 24
  have B0 : Hid (Below w.heap.size w (w.alloc (.cells #[.int .i64 N, .slice a0 es.length c0] 24))) := balloc (Below.refl _ _) _
  generalize w.alloc (.cells #[.int .i64 N, .slice a0 es.length c0] 24) = W0 at *
  refine (two_any W0).mono ?_
  rintro e w1 ⟨X1, rfl, e1, b1⟩
  have E1 : Hid _ := e1
  have P1 : Hid _ := P0.out.below b1
  have B1 : Hid (Below w.heap.size w w1) := bthen B0.out b1
  clear e1 b1 P0 B0
  go_wp2_with fail
  refine (jall_yes 2 _ _ w1 E1.out rnt_two two_good).mono ?_
  rintro e w2 ⟨R2, rfl, t2, b2⟩
  rw [two_all] at t2
  have T2 : Hid _ := t2
  have P2 : Hid _ := P1.out.below b2
  have B2 : Hid (Below w.heap.size w w2) := bthen B1.out b2
  clear t2 b2 P1 B1 E1
  go_wp2_with fail
  have L3 : Hid _ := lit_two w2 0 5 1099511627776 0
  have b3 : Below w2.heap.size w2 (((w2.alloc (.cells #[.int .i64 0, .int .i64 5] 3)).alloc (.cells #[.int .i64 1099511627776, .int .i64 0] 3)).alloc (.cells #[.slice (some ⟨w2.heap.size, 0, none⟩) 2 2, .slice (some ⟨w2.heap.size + 1, 0, none⟩) 2 2] 41)) := balloc (balloc (balloc (Below.refl _ _) _) _) _
  generalize ((w2.alloc (.cells #[.int .i64 0, .int .i64 5] 3)).alloc (.cells #[.int .i64 1099511627776, .int .i64 0] 3)).alloc (.cells #[.slice (some ⟨w2.heap.size, 0, none⟩) 2 2, .slice (some ⟨w2.heap.size + 1, 0, none⟩) 2 2] 41) = W3 at *
  refine (sameRows_yes _ _ (tbl 2 (two_i 0 5 1099511627776 0)) W3 (T2.out.below b3) L3.out (by rw [tbl_length]; omega) (fun i hi => by rw [tbl_length] at hi; rw [tbl_at hi, lst_length]; omega)).mono ?_
  rintro e w4 ⟨rfl, b4⟩
  have P4 : Hid _ := (P2.out.below b3).below b4
  have B4 : Hid (Below w.heap.size w w4) := bthen (bthen B2.out b3) b4
  obtain ⟨p0, p1⟩ := P4.out
  clear b3 b4 P2 B2 T2 L3
  go_wp2_with fail
  clear p0 p1
  refine (jall_yes N _ es w4 (HV.out.below B4.out) HB.out HS.out).mono ?_
  rintro e w5 ⟨R5, rfl, t5, b5⟩
  have T5 : Hid _ := t5
  clear t5
  have P5 : Hid _ := P4.out.below b5
  have B5 : Hid (Below w.heap.size w w5) := bthen B4.out b5
  obtain ⟨p0, p1⟩ := P5.out
  clear b5
  go_wp2_with fail
  clear p0 p1
  refine (fall_yes N _ es w5 (HV.out.below B5.out) HB.out HS.out).mono ?_
  rintro e w6 ⟨R6, rfl, t6, b6⟩
  have T6 : Hid _ := t6
  have T5' : Hid _ := T5.out.below b6
  clear t6
  have P6 : Hid _ := P5.out.below b6
  have B6 : Hid (Below w.heap.size w w6) := bthen B5.out b6
  obtain ⟨p0, p1⟩ := P6.out
  clear b6
  go_wp2_with fail
  clear p0 p1
  refine (sameRows_yes _ _ (tbl N (fun s => spr es (Dm.start s) (N - 1))) w6 T5'.out T6.out (by rw [tbl_length]; omega) (fun i hi => by rw [tbl_length] at hi; rw [tbl_at hi, lst_length]; omega)).mono ?_
  rintro e w7 ⟨rfl, b7⟩
  have T7 : Hid _ := T5'.out.below b7
  have P7 : Hid _ := P6.out.below b7
  have B7 : Hid (Below w.heap.size w w7) := bthen B6.out b7
  obtain ⟨p0, p1⟩ := P7.out
  clear b7
  go_wp2_with fail
  clear p0 p1
  refine (bdist_arg N s _ es w7 (HV.out.below B7.out) hlen HB.out.nck HP.out).mono ?_
  rintro e w8 ⟨rfl, b8⟩
  have B8 : Hid (Below w.heap.size w w8) := bthen B7.out b8
  clear b8
  go_wp2_with fail
  go_ret
  exact ⟨rfl, B8.out⟩
set_option maxRecDepth 100000 in
set_option maxHeartbeats 8000000 in
theorem walk_yes (N : Nat) (s : Nat) (v : Value) (es : List E) (w : World) (hv : SlE w v es) (hb : Rnt N es) (hs : (rns es (fun _ => 0) N).s = -1) (hsN : s < N) :
    Calls Try.prog 6 #[.agg #[.int .i64 N, v], .int .i64 s] w fun e w' => e = .returned (.bool true) ∧ Below w.heap.size w w' := by
  obtain ⟨a0, c0, rfl⟩ := hv.val
  have HV : Hid _ := hv
  have HB : Hid _ := hb
  have HS : Hid _ := hs
  have hlen : es.length ≤ 9223372036854775807 := by have := hb.len; omega
  have hn64 := hb.n64
  have HD : Hid _ := dist_good hb hs hsN
  have hsi : (s : Int) < (N : Int) := by omega
  clear hv hb hs
  go_enter Try.func6, Try.ntmps6
  go_wp2_with fail
  have P0 : Hid _ := box2_new w (N : Int) (.slice a0 es.length c0) 24
  have B0 : Hid (Below w.heap.size w (w.alloc (.cells #[.int .i64 N, .slice a0 es.length c0] 24))) := balloc (Below.refl _ _) _
  generalize w.alloc (.cells #[.int .i64 N, .slice a0 es.length c0] 24) = W0 at *
  refine (two_any W0).mono ?_
  rintro e w1 ⟨X1, rfl, e1, b1⟩
  have E1 : Hid _ := e1
  have P1 : Hid _ := P0.out.below b1
  have B1 : Hid (Below w.heap.size w w1) := bthen B0.out b1
  clear e1 b1 P0 B0
  go_wp2_with fail
  refine (jall_yes 2 _ _ w1 E1.out rnt_two two_good).mono ?_
  rintro e w2 ⟨R2, rfl, t2, b2⟩
  rw [two_all] at t2
  have T2 : Hid _ := t2
  have P2 : Hid _ := P1.out.below b2
  have B2 : Hid (Below w.heap.size w w2) := bthen B1.out b2
  clear t2 b2 P1 B1 E1
  go_wp2_with fail
  have L3 : Hid _ := lit_two w2 0 5 1099511627776 0
  have b3 : Below w2.heap.size w2 (((w2.alloc (.cells #[.int .i64 0, .int .i64 5] 3)).alloc (.cells #[.int .i64 1099511627776, .int .i64 0] 3)).alloc (.cells #[.slice (some ⟨w2.heap.size, 0, none⟩) 2 2, .slice (some ⟨w2.heap.size + 1, 0, none⟩) 2 2] 41)) := balloc (balloc (balloc (Below.refl _ _) _) _) _
  generalize ((w2.alloc (.cells #[.int .i64 0, .int .i64 5] 3)).alloc (.cells #[.int .i64 1099511627776, .int .i64 0] 3)).alloc (.cells #[.slice (some ⟨w2.heap.size, 0, none⟩) 2 2, .slice (some ⟨w2.heap.size + 1, 0, none⟩) 2 2] 41) = W3 at *
  refine (sameRows_yes _ _ (tbl 2 (two_i 0 5 1099511627776 0)) W3 (T2.out.below b3) L3.out (by rw [tbl_length]; omega) (fun i hi => by rw [tbl_length] at hi; rw [tbl_at hi, lst_length]; omega)).mono ?_
  rintro e w4 ⟨rfl, b4⟩
  have P4 : Hid _ := (P2.out.below b3).below b4
  have B4 : Hid (Below w.heap.size w w4) := bthen (bthen B2.out b3) b4
  obtain ⟨p0, p1⟩ := P4.out
  clear b3 b4 P2 B2 T2 L3
  go_wp2_with fail
  clear p0 p1
  refine (jall_yes N _ es w4 (HV.out.below B4.out) HB.out HS.out).mono ?_
  rintro e w5 ⟨R5, rfl, t5, b5⟩
  have T5 : Hid _ := t5
  clear t5
  have P5 : Hid _ := P4.out.below b5
  have B5 : Hid (Below w.heap.size w w5) := bthen B4.out b5
  obtain ⟨p0, p1⟩ := P5.out
  clear b5
  go_wp2_with fail
  clear p0 p1
  refine (fall_yes N _ es w5 (HV.out.below B5.out) HB.out HS.out).mono ?_
  rintro e w6 ⟨R6, rfl, t6, b6⟩
  have T6 : Hid _ := t6
  have T5' : Hid _ := T5.out.below b6
  clear t6
  have P6 : Hid _ := P5.out.below b6
  have B6 : Hid (Below w.heap.size w w6) := bthen B5.out b6
  obtain ⟨p0, p1⟩ := P6.out
  clear b6
  go_wp2_with fail
  clear p0 p1
  refine (sameRows_yes _ _ (tbl N (fun s => spr es (Dm.start s) (N - 1))) w6 T5'.out T6.out (by rw [tbl_length]; omega) (fun i hi => by rw [tbl_length] at hi; rw [tbl_at hi, lst_length]; omega)).mono ?_
  rintro e w7 ⟨rfl, b7⟩
  have T7 : Hid _ := T5'.out.below b7
  have P7 : Hid _ := P6.out.below b7
  have B7 : Hid (Below w.heap.size w w7) := bthen B6.out b7
  obtain ⟨p0, p1⟩ := P7.out
  clear b7
  go_wp2_with fail
  clear p0 p1
  refine (bdist_yes N s _ es w7 (HV.out.below B7.out) HB.out hsN HD.out.1).mono ?_
  rintro e w8 ⟨G8, rfl, _, u8, b8⟩
  have S8 : Hid (SlI w8 (.slice (some ⟨G8, 0, none⟩) N N) (lst N (spr es (Dm.start s) (N - 1)))) := by have := u8.sl; rw [lst_congr HD.out.2] at this; exact this
  have T8 : Hid _ := T7.out.below b8
  have P8 : Hid _ := P7.out.below b8
  have B8 : Hid (Below w.heap.size w w8) := bthen B7.out b8
  obtain ⟨p0, p1⟩ := P8.out
  obtain ⟨b, off, cap, hveq, hrow⟩ := T8.out.some' (by rw [tbl_length]; omega)
  rw [tbl_length] at hveq hrow
  simp only [Value.slice.injEq] at hveq
  obtain ⟨hba, -, hcap⟩ := hveq
  simp only [Option.some.injEq, Addr.mk.injEq] at hba
  obtain ⟨rfl, rfl, -⟩ := hba
  obtain ⟨ra, rn, rc, rcell, rsl⟩ := hrow s hsN
  rw [tbl_at hsN] at rsl
  rw [Nat.zero_add] at rcell
  have RS : Hid _ := rsl
  clear b8 u8 hrow rsl hcap
  go_wp2_with fail
  refine (iequal_yes _ _ (lst N (spr es (Dm.start s) (N - 1))) w8 S8.out RS.out (by rw [lst_length]; omega)).mono ?_
  rintro e w9 ⟨rfl, b9⟩
  have B9 : Hid (Below w.heap.size w w9) := bthen B8.out b9
  clear b9 p0 p1 rcell
  go_wp2_with fail
  go_ret
  exact ⟨rfl, B9.out⟩
theorem walk (n s : Int) (v : Value) (es : List E) (w : World) (hv : SlE w v es) (hlen : es.length ≤ 9223372036854775807) :
    Calls Try.prog 6 #[.agg #[.int .i64 n, v], .int .i64 s] w fun e w' => e = .returned (.bool true) ∧ Below w.heap.size w w' := by
  by_cases hc : nck n es = 0
  · obtain ⟨hb, hn⟩ := bn_of hc
    rw [← hn]
    by_cases hs : (rns es (fun _ => 0) n.toNat).s = -1
    · by_cases hp : plc ((n.toNat : Nat) : Int) s = true
      · have hp' := of_decide_eq_true hp
        obtain ⟨a, rfl⟩ := Int.eq_ofNat_of_zero_le hp'.1
        exact walk_yes n.toNat a v es w hv hb hs (by omega)
      · exact walk_arg n.toNat s v es w hv hb hs (by simpa using hp)
    · exact walk_no n.toNat s v es w hv hb hs
  · exact walk_net n s v es w hv hlen hc
end Go.Proofs.Ytlmichnnpameeaa.JSame
