/-
  The law fellkeep.FloydBetween, walked.
-/
import Derived.Test.YtlmichnnpameeaaFY
import Derived.Test.YtlmichnnpameeaaBE
import Derived.BigQuiet
namespace Go.Proofs.Ytlmichnnpameeaa.FBetween
open Go.RowKit
open Nm Wm Dm Bm Fm Fl
attribute [local go_sem ↓] Go.wp_at_zero Go.wp_at_succ

set_option maxRecDepth 100000 in
set_option maxHeartbeats 8000000 in
theorem walk_net (n i j k : Int) (v : Value) (es : List E) (w : World) (hv : SlE w v es) (hlen : es.length ≤ 9223372036854775807) (hc : nck n es ≠ 0) :
    Calls Try.prog 7 #[.agg #[.int .i64 n, v], .int .i64 i, .int .i64 j, .int .i64 k] w fun e w' => e = .returned (.bool true) ∧ Below w.heap.size w w' := by
  obtain ⟨a0, c0, rfl⟩ := hv.val
  have HV : Hid _ := hv
  have HC : Hid _ := hc
  have hz : (nck n es != 0) = true := by simp [hc]
  clear hv hc
  go_enter Try.func7, Try.ntmps7
  go_wp2_with fail
  have P0 : Hid _ := box2_new w n (.slice a0 es.length c0) 24
  have B0 : Hid (Below w.heap.size w (w.alloc (.cells #[.int .i64 n, .slice a0 es.length c0] 24))) := balloc (Below.refl _ _) _
  generalize w.alloc (.cells #[.int .i64 n, .slice a0 es.length c0] 24) = W0 at *
  refine (two_any W0).mono ?_
  rintro e w1 ⟨X1, rfl, e1, b1⟩
  have E1 : Hid _ := e1
  have P1 : Hid _ := P0.out.below b1
  have B1 : Hid (Below w.heap.size w w1) := bthen B0.out b1
  clear e1 b1 P0 B0
  go_wp2_with fail
  refine (fall_yes 2 _ _ w1 E1.out rnt_two two_good).mono ?_
  rintro e w2 ⟨R2, rfl, t2, b2⟩
  rw [two_all] at t2
  have T2 : Hid _ := t2
  have P2 : Hid _ := P1.out.below b2
  have B2 : Hid (Below w.heap.size w w2) := bthen B1.out b2
  clear t2 b2 P1 B1 E1
  go_wp2_with fail
  have L3 : Hid _ := lit_two w2 0 5 1099511627776 0
  have b3 : Below w2.heap.size w2 (((w2.alloc (.cells #[.int .i64 0, .int .i64 5] 3)).alloc (.cells #[.int .i64 1099511627776, .int .i64 0] 3)).alloc (.cells #[.slice (some ⟨w2.heap.size, 0, none⟩) 2 2, .slice (some ⟨w2.heap.size + 1, 0, none⟩) 2 2] 41)) := balloc (balloc (balloc (Below.refl _ _) _) _) _
  generalize ((w2.alloc (.cells #[.int .i64 0, .int .i64 5] 3)).alloc (.cells #[.int .i64 1099511627776, .int .i64 0] 3)).alloc (.cells #[.slice (some ⟨w2.heap.size, 0, none⟩) 2 2, .slice (some ⟨w2.heap.size + 1, 0, none⟩) 2 2] 41) = W3 at *
  refine (sameRows_yes _ _ (tbl 2 (two_i 0 5 1099511627776 0)) W3 (T2.out.below b3) L3.out (by rw [tbl_length]; omega) (fun i hi => by rw [tbl_length] at hi; rw [tbl_at hi, lst_length]; omega)).mono ?_
  rintro e w4 ⟨rfl, b4⟩
  have P4 : Hid _ := (P2.out.below b3).below b4
  have B4 : Hid (Below w.heap.size w w4) := bthen (bthen B2.out b3) b4
  obtain ⟨p0, p1⟩ := P4.out
  clear b3 b4 P2 B2 T2 L3
  go_wp2_with fail
  clear p0 p1
  refine (fall_net n _ es w4 (HV.out.below B4.out) hlen HC.out).mono ?_
  rintro e w5 ⟨rfl, b5⟩
  have B5 : Hid (Below w.heap.size w w5) := bthen B4.out b5
  clear b5
  go_wp2_with fail
  go_ret
  exact ⟨rfl, B5.out⟩
set_option maxRecDepth 100000 in
set_option maxHeartbeats 8000000 in
theorem walk_no (N : Nat) (i j k : Int) (v : Value) (es : List E) (w : World) (hv : SlE w v es) (hb : Rnt N es) (hs : (rns es (fun _ => 0) N).s ≠ -1) :
    Calls Try.prog 7 #[.agg #[.int .i64 N, v], .int .i64 i, .int .i64 j, .int .i64 k] w fun e w' => e = .returned (.bool true) ∧ Below w.heap.size w w' := by
  obtain ⟨a0, c0, rfl⟩ := hv.val
  have HV : Hid _ := hv
  have HB : Hid _ := hb
  have HS : Hid _ := hs
  clear hv hb hs
  go_enter Try.func7, Try.ntmps7
  go_wp2_with fail
  have P0 : Hid _ := box2_new w (N : Int) (.slice a0 es.length c0) 24
  have B0 : Hid (Below w.heap.size w (w.alloc (.cells #[.int .i64 N, .slice a0 es.length c0] 24))) := balloc (Below.refl _ _) _
  generalize w.alloc (.cells #[.int .i64 N, .slice a0 es.length c0] 24) = W0 at *
  refine (two_any W0).mono ?_
  rintro e w1 ⟨X1, rfl, e1, b1⟩
  have E1 : Hid _ := e1
  have P1 : Hid _ := P0.out.below b1
  have B1 : Hid (Below w.heap.size w w1) := bthen B0.out b1
  clear e1 b1 P0 B0
  go_wp2_with fail
  refine (fall_yes 2 _ _ w1 E1.out rnt_two two_good).mono ?_
  rintro e w2 ⟨R2, rfl, t2, b2⟩
  rw [two_all] at t2
  have T2 : Hid _ := t2
  have P2 : Hid _ := P1.out.below b2
  have B2 : Hid (Below w.heap.size w w2) := bthen B1.out b2
  clear t2 b2 P1 B1 E1
  go_wp2_with fail
  have L3 : Hid _ := lit_two w2 0 5 1099511627776 0
  have b3 : Below w2.heap.size w2 (((w2.alloc (.cells #[.int .i64 0, .int .i64 5] 3)).alloc (.cells #[.int .i64 1099511627776, .int .i64 0] 3)).alloc (.cells #[.slice (some ⟨w2.heap.size, 0, none⟩) 2 2, .slice (some ⟨w2.heap.size + 1, 0, none⟩) 2 2] 41)) := balloc (balloc (balloc (Below.refl _ _) _) _) _
  generalize ((w2.alloc (.cells #[.int .i64 0, .int .i64 5] 3)).alloc (.cells #[.int .i64 1099511627776, .int .i64 0] 3)).alloc (.cells #[.slice (some ⟨w2.heap.size, 0, none⟩) 2 2, .slice (some ⟨w2.heap.size + 1, 0, none⟩) 2 2] 41) = W3 at *
  refine (sameRows_yes _ _ (tbl 2 (two_i 0 5 1099511627776 0)) W3 (T2.out.below b3) L3.out (by rw [tbl_length]; omega) (fun i hi => by rw [tbl_length] at hi; rw [tbl_at hi, lst_length]; omega)).mono ?_
  rintro e w4 ⟨rfl, b4⟩
  have P4 : Hid _ := (P2.out.below b3).below b4
  have B4 : Hid (Below w.heap.size w w4) := bthen (bthen B2.out b3) b4
  obtain ⟨p0, p1⟩ := P4.out
  clear b3 b4 P2 B2 T2 L3
  go_wp2_with fail
  clear p0 p1
  refine (fall_no N _ es w4 (HV.out.below B4.out) HB.out HS.out).mono ?_
  rintro e w5 ⟨rfl, b5⟩
  have B5 : Hid (Below w.heap.size w w5) := bthen B4.out b5
  clear b5
  go_wp2_with fail
  go_ret
  exact ⟨rfl, B5.out⟩
set_option maxRecDepth 100000 in
set_option maxHeartbeats 8000000 in
theorem walk_yes (N : Nat) (i j k : Int) (v : Value) (es : List E) (w : World) (hv : SlE w v es) (hb : Rnt N es) (hs : (rns es (fun _ => 0) N).s = -1) :
    Calls Try.prog 7 #[.agg #[.int .i64 N, v], .int .i64 i, .int .i64 j, .int .i64 k] w fun e w' => e = .returned (.bool true) ∧ Below w.heap.size w w' := by
  obtain ⟨a0, c0, rfl⟩ := hv.val
  have HV : Hid _ := hv
  have HB : Hid _ := hb
  have HS : Hid _ := hs
  have hn64 := hb.n64
  have hn1 := hb.n1
  clear hv hb hs
  go_enter Try.func7, Try.ntmps7
  go_wp2_with fail
  have P0 : Hid _ := box2_new w (N : Int) (.slice a0 es.length c0) 24
  have B0 : Hid (Below w.heap.size w (w.alloc (.cells #[.int .i64 N, .slice a0 es.length c0] 24))) := balloc (Below.refl _ _) _
  generalize w.alloc (.cells #[.int .i64 N, .slice a0 es.length c0] 24) = W0 at *
  refine (two_any W0).mono ?_
  rintro e w1 ⟨X1, rfl, e1, b1⟩
  have E1 : Hid _ := e1
  have P1 : Hid _ := P0.out.below b1
  have B1 : Hid (Below w.heap.size w w1) := bthen B0.out b1
  clear e1 b1 P0 B0
  go_wp2_with fail
  refine (fall_yes 2 _ _ w1 E1.out rnt_two two_good).mono ?_
  rintro e w2 ⟨R2, rfl, t2, b2⟩
  rw [two_all] at t2
  have T2 : Hid _ := t2
  have P2 : Hid _ := P1.out.below b2
  have B2 : Hid (Below w.heap.size w w2) := bthen B1.out b2
  clear t2 b2 P1 B1 E1
  go_wp2_with fail
  have L3 : Hid _ := lit_two w2 0 5 1099511627776 0
  have b3 : Below w2.heap.size w2 (((w2.alloc (.cells #[.int .i64 0, .int .i64 5] 3)).alloc (.cells #[.int .i64 1099511627776, .int .i64 0] 3)).alloc (.cells #[.slice (some ⟨w2.heap.size, 0, none⟩) 2 2, .slice (some ⟨w2.heap.size + 1, 0, none⟩) 2 2] 41)) := balloc (balloc (balloc (Below.refl _ _) _) _) _
  generalize ((w2.alloc (.cells #[.int .i64 0, .int .i64 5] 3)).alloc (.cells #[.int .i64 1099511627776, .int .i64 0] 3)).alloc (.cells #[.slice (some ⟨w2.heap.size, 0, none⟩) 2 2, .slice (some ⟨w2.heap.size + 1, 0, none⟩) 2 2] 41) = W3 at *
  refine (sameRows_yes _ _ (tbl 2 (two_i 0 5 1099511627776 0)) W3 (T2.out.below b3) L3.out (by rw [tbl_length]; omega) (fun i hi => by rw [tbl_length] at hi; rw [tbl_at hi, lst_length]; omega)).mono ?_
  rintro e w4 ⟨rfl, b4⟩
  have P4 : Hid _ := (P2.out.below b3).below b4
  have B4 : Hid (Below w.heap.size w w4) := bthen (bthen B2.out b3) b4
  obtain ⟨p0, p1⟩ := P4.out
  clear b3 b4 P2 B2 T2 L3
  go_wp2_with fail
  clear p0 p1
  refine (fall_tv N _ es w4 (HV.out.below B4.out) HB.out HS.out).mono ?_
  rintro e w5 ⟨R, Gs, rfl, t5, b5⟩
  have T5 : Hid _ := t5
  have P5 : Hid _ := P4.out.below b5
  have B5 : Hid (Below w.heap.size w w5) := bthen B4.out b5
  obtain ⟨p0, p1⟩ := P5.out
  clear b5 t5 P4 B4
  go_wp2_with fail
  go_quiet (first
    | (go_at_call 24; exact Calls.quiet_of_same (within_any _ N _ hn1 hn64)))
  obtain ⟨x, hx⟩ : ∃ x, wi i N = x := ⟨_, rfl⟩
  obtain ⟨y, hy⟩ : ∃ y, wi j N = y := ⟨_, rfl⟩
  obtain ⟨z, hz⟩ : ∃ z, wi k N = z := ⟨_, rfl⟩
  have hxN : x < N := by rw [← hx]; exact wi_lt i hn1
  have hyN : y < N := by rw [← hy]; exact wi_lt j hn1
  have hzN : z < N := by rw [← hz]; exact wi_lt k hn1
  rw [hx, hy, hz]
  clear hx hy hz p0 p1
  have T8 : Hid _ := T5.out.below (bdrewN (Below.refl _ _) nq)
  have P8 : Hid _ := P5.out.below (bdrewN (Below.refl _ _) nq)
  have B8 : Hid (Below w.heap.size w (w5.drewN nq)) := bdrewN B5.out nq
  clear T5 P5 B5
  generalize w5.drewN nq = w8 at *
  obtain ⟨p0, p1⟩ := P8.out
  have hxi : (x : Int) < (N : Int) := by omega
  have hyi : (y : Int) < (N : Int) := by omega
  have hzi : (z : Int) < (N : Int) := by omega
  have r1 := T8.out.head x hxN
  have r2 := T8.out.head z hzN
  obtain ⟨c1, -⟩ := (T8.out.row x hxN).cell x hxN
  obtain ⟨c2, -⟩ := (T8.out.row x hxN).cell z hzN
  obtain ⟨c3, -⟩ := (T8.out.row z hzN).cell y hyN
  obtain ⟨c4, -⟩ := (T8.out.row x hxN).cell y hyN
  have rg : ∀ s, s < N → ∀ u, u < N → -1000000 ≤ spr es (Dm.start s) (N - 1) u ∧ spr es (Dm.start s) (N - 1) u ≤ far := fun s _ => spr_rng HB.out (d0 := Dm.start s) (fun v _ => by unfold Dm.start; split <;> decide) (by omega)
  have g2 := rg x hxN z hzN
  have g3 := rg z hzN y hyN
  obtain ⟨so, sv⟩ := spr_over HB.out HS.out hxN hyN hzN
  rw [so] at c1
  clear rg so
  generalize spr es (Dm.start x) (N - 1) z = d2 at *
  generalize spr es (Dm.start z) (N - 1) y = d3 at *
  generalize spr es (Dm.start x) (N - 1) y = d4 at *
  have hF : far = 1099511627776 := rfl
  rw [hF] at g2 g3 sv
  have SV : Hid _ := sv
  clear hF sv
  clear HV HB HS
  by_cases h2 : d2 = 1099511627776
  · have z2 : (d2 == 1099511627776) = true := by simpa using h2
    clear h2 SV
    go_wp2_with fail
    go_quiet (fail)
    go_wp2
    go_ret
    exact ⟨rfl, bdrewN B8.out _⟩
  · have z2 : (d2 == 1099511627776) = false := by simpa using h2
    by_cases h3 : d3 = 1099511627776
    · have z3 : (d3 == 1099511627776) = true := by simpa using h3
      clear h2 h3 SV
      go_wp2_with fail
      go_quiet (fail)
      go_wp2
      go_ret
      exact ⟨rfl, bdrewN B8.out _⟩
    · have z3 : (d3 == 1099511627776) = false := by simpa using h3
      have hle := SV.out (by omega) (by omega)
      have hw : IntKind.i64.wrap (d2 + d3) = d2 + d3 := by rw [IntKind.wrap_i64]; omega
      have hle2 : ¬ (d2 + d3 < d4) := by omega
      clear h2 h3 SV
      go_wp2_with fail
      go_quiet (fail)
      go_wp2
      go_ret
      exact ⟨rfl, bdrewN B8.out _⟩
theorem walk (n i j k : Int) (v : Value) (es : List E) (w : World) (hv : SlE w v es) (hlen : es.length ≤ 9223372036854775807) :
    Calls Try.prog 7 #[.agg #[.int .i64 n, v], .int .i64 i, .int .i64 j, .int .i64 k] w fun e w' => e = .returned (.bool true) ∧ Below w.heap.size w w' := by
  by_cases hc : nck n es = 0
  · obtain ⟨hb, hn⟩ := bn_of hc
    rw [← hn]
    by_cases hs : (rns es (fun _ => 0) n.toNat).s = -1
    · exact walk_yes n.toNat i j k v es w hv hb hs
    · exact walk_no n.toNat i j k v es w hv hb hs
  · exact walk_net n i j k v es w hv hlen hc
end Go.Proofs.Ytlmichnnpameeaa.FBetween
