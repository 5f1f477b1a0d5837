/-
  The law fellkeep.FloydWidth, walked.
-/
import Derived.Test.YtlmichnnpameeaaFZ
import Derived.Test.YtlmichnnpameeaaFp
import Derived.BigQuiet
import Derived.Test.YtlmichnnpameeaaQM
namespace Go.Proofs.Ytlmichnnpameeaa.FWidth
open Go.RowKit
open Nm Wm Dm Bm Fm Fl
attribute [local go_sem ↓] Go.wp_at_zero Go.wp_at_succ

set_option maxRecDepth 100000 in
set_option maxHeartbeats 8000000 in
theorem walk_net (n i j k : Int) (v : Value) (es : List E) (w : World) (hv : SlE w v es) (hlen : es.length ≤ 9223372036854775807) (hc : nck n es ≠ 0) :
    Calls Try.prog 8 #[.agg #[.int .i64 n, v], .int .i64 i, .int .i64 j, .int .i64 k] w fun e w' => e = .returned (.bool true) ∧ Below w.heap.size w w' := by
  obtain ⟨a0, c0, rfl⟩ := hv.val
  have HV : Hid _ := hv
  obtain ⟨k1, hk1⟩ : ∃ k, nck n es = k := ⟨_, rfl⟩
  have HK : Hid _ := hk1
  have HC : Hid _ := hc
  have z3 : (k1 == k1) = true := by simp
  have z4 : (k1 != 0) = true := by rw [← hk1]; simp [hc]
  clear hk1
  clear hv hc
  go_enter Try.func8, Try.ntmps8
  go_wp2_with fail
  have P0 : Hid _ := box2_new w n (.slice a0 es.length c0) 24
  have B0 : Hid (Below w.heap.size w (w.alloc (.cells #[.int .i64 n, .slice a0 es.length c0] 24))) := balloc (Below.refl _ _) _
  generalize w.alloc (.cells #[.int .i64 n, .slice a0 es.length c0] 24) = W0 at *
  refine (two_any W0).mono ?_
  rintro e w1 ⟨X1, rfl, e1, b1⟩
  have E1 : Hid _ := e1
  have P1 : Hid _ := P0.out.below b1
  have B1 : Hid (Below w.heap.size w w1) := bthen B0.out b1
  clear e1 b1 P0 B0
  go_wp2_with fail
  refine (fwide_yes 2 _ _ w1 E1.out rnt_two).mono ?_
  rintro e w2 ⟨R2, Gs2, rfl, t2, b2⟩
  have T2 : Hid _ := (t2.congr (fun i j hi hj => (two_wide i j hi hj).symm)).slt
  have P2 : Hid _ := P1.out.below b2
  have B2 : Hid (Below w.heap.size w w2) := bthen B1.out b2
  clear t2 b2 P1 B1 E1
  go_wp2_with fail
  have L3 : Hid _ := lit_two w2 1099511627776 5 (-1099511627776) 1099511627776
  have b3 : Below w2.heap.size w2 (((w2.alloc (.cells #[.int .i64 1099511627776, .int .i64 5] 3)).alloc (.cells #[.int .i64 (-1099511627776), .int .i64 1099511627776] 3)).alloc (.cells #[.slice (some ⟨w2.heap.size, 0, none⟩) 2 2, .slice (some ⟨w2.heap.size + 1, 0, none⟩) 2 2] 41)) := balloc (balloc (balloc (Below.refl _ _) _) _) _
  generalize ((w2.alloc (.cells #[.int .i64 1099511627776, .int .i64 5] 3)).alloc (.cells #[.int .i64 (-1099511627776), .int .i64 1099511627776] 3)).alloc (.cells #[.slice (some ⟨w2.heap.size, 0, none⟩) 2 2, .slice (some ⟨w2.heap.size + 1, 0, none⟩) 2 2] 41) = W3 at *
  refine (sameRows_yes _ _ (tbl 2 (two_i 1099511627776 5 (-1099511627776) 1099511627776)) W3 (T2.out.below b3) L3.out (by rw [tbl_length]; omega) (fun i hi => by rw [tbl_length] at hi; rw [tbl_at hi, lst_length]; omega)).mono ?_
  rintro e w4 ⟨rfl, b4⟩
  have P4 : Hid _ := (P2.out.below b3).below b4
  have B4 : Hid (Below w.heap.size w w4) := bthen (bthen B2.out b3) b4
  obtain ⟨p0, p1⟩ := P4.out
  clear b3 b4 P2 B2 T2 L3
  go_wp2_with fail
  clear p0 p1
  refine (fwide_net n _ es w4 (HV.out.below B4.out) hlen HC.out).mono ?_
  rintro e w5 ⟨rfl, b5⟩
  rw [HK.out]
  have P5 : Hid _ := P4.out.below b5
  have B5 : Hid (Below w.heap.size w w5) := bthen B4.out b5
  obtain ⟨p0, p1⟩ := P5.out
  clear b5 P4 B4
  go_wp2_with fail
  clear p0 p1
  refine (freach_net n _ es w5 (HV.out.below B5.out) hlen HC.out).mono ?_
  rintro e w6 ⟨rfl, b6⟩
  rw [HK.out]
  have B6 : Hid (Below w.heap.size w w6) := bthen B5.out b6
  clear b6
  go_wp2_with fail
  go_ret
  exact ⟨rfl, B6.out⟩
set_option maxRecDepth 100000 in
set_option maxHeartbeats 8000000 in
theorem walk_yes (N : Nat) (i j k : Int) (v : Value) (es : List E) (w : World) (hv : SlE w v es) (hb : Rnt N es) :
    Calls Try.prog 8 #[.agg #[.int .i64 N, v], .int .i64 i, .int .i64 j, .int .i64 k] w fun e w' => e = .returned (.bool true) ∧ Below w.heap.size w w' := by
  obtain ⟨a0, c0, rfl⟩ := hv.val
  have HV : Hid _ := hv
  have HB : Hid _ := hb
  have hn64 := hb.n64
  have hn1 := hb.n1
  clear hv hb
  go_enter Try.func8, Try.ntmps8
  go_wp2_with fail
  have P0 : Hid _ := box2_new w (N : Int) (.slice a0 es.length c0) 24
  have B0 : Hid (Below w.heap.size w (w.alloc (.cells #[.int .i64 N, .slice a0 es.length c0] 24))) := balloc (Below.refl _ _) _
  generalize w.alloc (.cells #[.int .i64 N, .slice a0 es.length c0] 24) = W0 at *
  refine (two_any W0).mono ?_
  rintro e w1 ⟨X1, rfl, e1, b1⟩
  have E1 : Hid _ := e1
  have P1 : Hid _ := P0.out.below b1
  have B1 : Hid (Below w.heap.size w w1) := bthen B0.out b1
  clear e1 b1 P0 B0
  go_wp2_with fail
  refine (fwide_yes 2 _ _ w1 E1.out rnt_two).mono ?_
  rintro e w2 ⟨R2, Gs2, rfl, t2, b2⟩
  have T2 : Hid _ := (t2.congr (fun i j hi hj => (two_wide i j hi hj).symm)).slt
  have P2 : Hid _ := P1.out.below b2
  have B2 : Hid (Below w.heap.size w w2) := bthen B1.out b2
  clear t2 b2 P1 B1 E1
  go_wp2_with fail
  have L3 : Hid _ := lit_two w2 1099511627776 5 (-1099511627776) 1099511627776
  have b3 : Below w2.heap.size w2 (((w2.alloc (.cells #[.int .i64 1099511627776, .int .i64 5] 3)).alloc (.cells #[.int .i64 (-1099511627776), .int .i64 1099511627776] 3)).alloc (.cells #[.slice (some ⟨w2.heap.size, 0, none⟩) 2 2, .slice (some ⟨w2.heap.size + 1, 0, none⟩) 2 2] 41)) := balloc (balloc (balloc (Below.refl _ _) _) _) _
  generalize ((w2.alloc (.cells #[.int .i64 1099511627776, .int .i64 5] 3)).alloc (.cells #[.int .i64 (-1099511627776), .int .i64 1099511627776] 3)).alloc (.cells #[.slice (some ⟨w2.heap.size, 0, none⟩) 2 2, .slice (some ⟨w2.heap.size + 1, 0, none⟩) 2 2] 41) = W3 at *
  refine (sameRows_yes _ _ (tbl 2 (two_i 1099511627776 5 (-1099511627776) 1099511627776)) W3 (T2.out.below b3) L3.out (by rw [tbl_length]; omega) (fun i hi => by rw [tbl_length] at hi; rw [tbl_at hi, lst_length]; omega)).mono ?_
  rintro e w4 ⟨rfl, b4⟩
  have P4 : Hid _ := (P2.out.below b3).below b4
  have B4 : Hid (Below w.heap.size w w4) := bthen (bthen B2.out b3) b4
  obtain ⟨p0, p1⟩ := P4.out
  clear b3 b4 P2 B2 T2 L3
  go_wp2_with fail
  clear p0 p1
  refine (fwide_yes N _ es w4 (HV.out.below B4.out) HB.out).mono ?_
  rintro e w5 ⟨R, Gs, rfl, t5, b5⟩
  have T5 : Hid _ := t5
  have P5 : Hid _ := P4.out.below b5
  have B5 : Hid (Below w.heap.size w w5) := bthen B4.out b5
  obtain ⟨p0, p1⟩ := P5.out
  clear b5 t5 P4 B4
  go_wp2_with fail
  clear p0 p1
  refine (freach_yes N _ es w5 (HV.out.below B5.out) HB.out).mono ?_
  rintro e w6 ⟨S, Hs, rfl, u6, b6⟩
  have U6 : Hid _ := u6
  have T6 : Hid _ := T5.out.below b6
  have P6 : Hid _ := P5.out.below b6
  have B6 : Hid (Below w.heap.size w w6) := bthen B5.out b6
  obtain ⟨p0, p1⟩ := P6.out
  clear b6 u6 T5 P5 B5
  go_wp2_with fail
  go_quiet (first
    | (go_at_call 24; exact Calls.quiet_of_same (within_any _ N _ hn1 hn64)))
  obtain ⟨x, hx⟩ : ∃ x, wi i N = x := ⟨_, rfl⟩
  obtain ⟨y, hy⟩ : ∃ y, wi j N = y := ⟨_, rfl⟩
  obtain ⟨z, hz⟩ : ∃ z, wi k N = z := ⟨_, rfl⟩
  have hxN : x < N := by rw [← hx]; exact wi_lt i hn1
  have hyN : y < N := by rw [← hy]; exact wi_lt j hn1
  have hzN : z < N := by rw [← hz]; exact wi_lt k hn1
  rw [hx, hy, hz]
  clear hx hy hz p0 p1
  have T8 : Hid _ := T6.out.below (bdrewN (Below.refl _ _) nq)
  have U8 : Hid _ := U6.out.below (bdrewN (Below.refl _ _) nq)
  have P8 : Hid _ := P6.out.below (bdrewN (Below.refl _ _) nq)
  have B8 : Hid (Below w.heap.size w (w6.drewN nq)) := bdrewN B6.out nq
  clear T6 P6 B6 U6
  generalize w6.drewN nq = w8 at *
  obtain ⟨p0, p1⟩ := P8.out
  have hxi : (x : Int) < (N : Int) := by omega
  have hyi : (y : Int) < (N : Int) := by omega
  have hzi : (z : Int) < (N : Int) := by omega
  have r1 := T8.out.head x hxN
  obtain ⟨c1, -⟩ := (T8.out.row x hxN).cell y hyN
  go_wp2_with fail
  clear p0 p1 r1 c1
  have T9 : Hid _ := T8.out.below (balloc (Below.refl _ _) (.cells #[.int .i64 (fww es N x y)] 3))
  have U9 : Hid _ := U8.out.below (balloc (Below.refl _ _) (.cells #[.int .i64 (fww es N x y)] 3))
  have P9 : Hid _ := P8.out.below (balloc (Below.refl _ _) (.cells #[.int .i64 (fww es N x y)] 3))
  have B9 : Hid (Below w.heap.size w (w8.alloc (.cells #[.int .i64 (fww es N x y)] 3))) := balloc B8.out _
  have l0 := cell_new w8 #[.int .i64 (fww es N x y)] 3 0 _ rfl
  clear T8 U8 P8 B8
  generalize w8.alloc (.cells #[.int .i64 (fww es N x y)] 3) = w9 at *
  obtain ⟨L, hL⟩ : ∃ L, w8.heap.size = L := ⟨_, rfl⟩
  rw [hL] at l0 ⊢
  clear hL
  obtain ⟨p0, p1⟩ := P9.out
  have r1 := T9.out.head x hxN
  have r2 := T9.out.head z hzN
  have r3 := U9.out.head x hxN
  obtain ⟨c2, -⟩ := (T9.out.row x hxN).cell z hzN
  obtain ⟨c3, -⟩ := (T9.out.row z hzN).cell y hyN
  obtain ⟨c4, -⟩ := (U9.out.row x hxN).cell y hyN
  rw [← fww_reach HB.out] at c4
  have hmin := fww_over HB.out x y z
  have hlow := fww_low es (low_edges HB.out) N x y
  have HCO : Hid (x ≠ y → fww es N x y ≠ -far → ∃ e ∈ es, e.2.2 = fww es N x y) := fun h1 h2 => fww_cost HB.out h1 h2
  have HSE : Hid (x = y → fww es N x y ≠ -1099511627776) := fun h1 => by rw [← h1, fww_self HB.out]; decide
  have hlen : es.length ≤ 600 := HB.out.len
  have hF : far = 1099511627776 := rfl
  rw [hF] at c4 HCO hlow
  clear hF HB
  generalize fww es N x y = d at *
  generalize fww es N x z = d2 at *
  generalize fww es N z y = d3 at *
  rcases Int.lt_or_le d3 d2 with hm | hm
  · rw [show min d2 d3 = d3 by omega] at hmin
    have z0 : decide (d3 ≤ d) = true := decide_eq_true hmin
    by_cases hd : d = -1099511627776
    · have z1 : (d == -1099511627776) = true := by simpa using hd
      have z2 : decide (-1099511627776 < d) = false := decide_eq_false (by omega)
      have hxy : ¬ x = y := fun h => HSE.out h hd
      have z3 : ((x : Int) == (y : Int)) = false := by simp; omega
      rw [z2] at c4
      clear hd hxy hmin
      go_quiet (fail)
      go_wp2
      go_ret
      exact ⟨rfl, bdrewN B9.out _⟩
    · have z1 : (d == -1099511627776) = false := by simpa using hd
      have z2 : decide (-1099511627776 < d) = true := decide_eq_true (by omega)
      rw [z2] at c4
      by_cases hxy : x = y
      · have z3 : ((x : Int) == (y : Int)) = true := by simp; omega
        clear hd hxy hmin
        go_quiet (fail)
        go_wp2
        go_ret
        exact ⟨rfl, bdrewN B9.out _⟩
      · have z3 : ((x : Int) == (y : Int)) = false := by simp; omega
        have HEX : Hid _ := HCO.out hxy hd
        clear hd hxy hmin
        have k1 : ∀ u : Later w9, u.w.cell? ⟨L, 0, none⟩ = some (.int .i64 d) := fun u => u.cell l0
        have k2 : ∀ u : Later w9, u.w.cell? ⟨w.heap.size, 1, none⟩ = some (.slice a0 es.length c0) := fun u => u.cell p1
        have k3 : ∀ u : Later w9, u.w.cell? ⟨R, x, none⟩ = some (.slice (some ⟨Gs x, 0, none⟩) N N) := fun u => u.cell r1
        have k4 : ∀ u : Later w9, u.w.cell? ⟨R, z, none⟩ = some (.slice (some ⟨Gs z, 0, none⟩) N N) := fun u => u.cell r2
        have k5 : ∀ u : Later w9, u.w.cell? ⟨S, x, none⟩ = some (.slice (some ⟨Hs x, 0, none⟩) N N) := fun u => u.cell r3
        have k6 : ∀ u : Later w9, u.w.cell? ⟨Gs x, z, none⟩ = some (enci d2) := fun u => u.cell c2
        have k7 : ∀ u : Later w9, u.w.cell? ⟨Gs z, y, none⟩ = some (enci d3) := fun u => u.cell c3
        have k8 : ∀ u : Later w9, u.w.cell? ⟨Hs x, y, none⟩ = some (encb true) := fun u => u.cell c4
        have hne : Nonempty (Later w9) := ⟨⟨w9, Below.refl _ _⟩⟩
        refine wp_region_later (by kernel_rfl) (by kernel_rfl) ?_
        repeat (quiet_step (first
          | (go_at_call 25; exact Calls.later_of (conW_any _ es L d _ ((HV.out.below B9.out).below (Later.bel _)) hlen (k1 _) HEX.out))))
        refine wpQuiet_nil ?_
        intro _ hwu
        obtain ⟨u, rfl⟩ := hwu
        go_wp2_with fail
        go_ret
        exact ⟨rfl, bthen B9.out u.bel⟩
  · rw [show min d2 d3 = d2 by omega] at hmin
    have hm2 : ¬ d3 < d2 := by omega
    have z0 : decide (d2 ≤ d) = true := decide_eq_true hmin
    by_cases hd : d = -1099511627776
    · have z1 : (d == -1099511627776) = true := by simpa using hd
      have z2 : decide (-1099511627776 < d) = false := decide_eq_false (by omega)
      have hxy : ¬ x = y := fun h => HSE.out h hd
      have z3 : ((x : Int) == (y : Int)) = false := by simp; omega
      rw [z2] at c4
      clear hd hxy hmin
      go_quiet (fail)
      go_wp2
      go_ret
      exact ⟨rfl, bdrewN B9.out _⟩
    · have z1 : (d == -1099511627776) = false := by simpa using hd
      have z2 : decide (-1099511627776 < d) = true := decide_eq_true (by omega)
      rw [z2] at c4
      by_cases hxy : x = y
      · have z3 : ((x : Int) == (y : Int)) = true := by simp; omega
        clear hd hxy hmin
        go_quiet (fail)
        go_wp2
        go_ret
        exact ⟨rfl, bdrewN B9.out _⟩
      · have z3 : ((x : Int) == (y : Int)) = false := by simp; omega
        have HEX : Hid _ := HCO.out hxy hd
        clear hd hxy hmin
        have k1 : ∀ u : Later w9, u.w.cell? ⟨L, 0, none⟩ = some (.int .i64 d) := fun u => u.cell l0
        have k2 : ∀ u : Later w9, u.w.cell? ⟨w.heap.size, 1, none⟩ = some (.slice a0 es.length c0) := fun u => u.cell p1
        have k3 : ∀ u : Later w9, u.w.cell? ⟨R, x, none⟩ = some (.slice (some ⟨Gs x, 0, none⟩) N N) := fun u => u.cell r1
        have k4 : ∀ u : Later w9, u.w.cell? ⟨R, z, none⟩ = some (.slice (some ⟨Gs z, 0, none⟩) N N) := fun u => u.cell r2
        have k5 : ∀ u : Later w9, u.w.cell? ⟨S, x, none⟩ = some (.slice (some ⟨Hs x, 0, none⟩) N N) := fun u => u.cell r3
        have k6 : ∀ u : Later w9, u.w.cell? ⟨Gs x, z, none⟩ = some (enci d2) := fun u => u.cell c2
        have k7 : ∀ u : Later w9, u.w.cell? ⟨Gs z, y, none⟩ = some (enci d3) := fun u => u.cell c3
        have k8 : ∀ u : Later w9, u.w.cell? ⟨Hs x, y, none⟩ = some (encb true) := fun u => u.cell c4
        have hne : Nonempty (Later w9) := ⟨⟨w9, Below.refl _ _⟩⟩
        refine wp_region_later (by kernel_rfl) (by kernel_rfl) ?_
        repeat (quiet_step (first
          | (go_at_call 25; exact Calls.later_of (conW_any _ es L d _ ((HV.out.below B9.out).below (Later.bel _)) hlen (k1 _) HEX.out))))
        refine wpQuiet_nil ?_
        intro _ hwu
        obtain ⟨u, rfl⟩ := hwu
        go_wp2_with fail
        go_ret
        exact ⟨rfl, bthen B9.out u.bel⟩
theorem walk (n i j k : Int) (v : Value) (es : List E) (w : World) (hv : SlE w v es) (hlen : es.length ≤ 9223372036854775807) :
    Calls Try.prog 8 #[.agg #[.int .i64 n, v], .int .i64 i, .int .i64 j, .int .i64 k] w fun e w' => e = .returned (.bool true) ∧ Below w.heap.size w w' := by
  by_cases hc : nck n es = 0
  · obtain ⟨hb, hn⟩ := bn_of hc
    rw [← hn]
    exact walk_yes n.toNat i j k v es w hv hb
  · exact walk_net n i j k v es w hv hlen hc
end Go.Proofs.Ytlmichnnpameeaa.FWidth
