/-
  The law fellkeep.CompLeads, walked.
-/
import Derived.Test.YtkklgnfimkojlaaKA
import Derived.Test.YtkklgnfimkojlaaKq
import Derived.Test.YtkklgnfimkojlaaKW
import Derived.Test.YtkklgnfimkojlaaQM
import Derived.Test.YtkklgnfimkojlaaND
import Derived.Test.YtkklgnfimkojlaaIE
import Derived.Test.YtkklgnfimkojlaaRV
namespace Go.Proofs.Ytkklgnfimkojlaa.CLeads
open Go.RowKit
open Nm Wm Dm Bm Fm Fl Km
attribute [local go_sem ↓] Go.wp_at_zero Go.wp_at_succ

theorem rnt3 : Rnt 3 [(1, 2, 0), (2, 1, 0)] := ⟨by omega, by omega, by simp, by simp⟩
theorem kn3 : lst 3 (fun x => ((kn (fwb (fun _ => true) [(1, 2, 0), (2, 1, 0)] 3) x : Nat) : Int)) = [0, 1, 1] := by kernel_rfl
theorem kn_turn {N : Nat} {es : List E} (x : Nat) : kn (fwb (fun _ => true) (es.map trn) N) x = kn (fwb (fun _ => true) es N) x := by
  have h := kn_is (fwb (fun _ => true) es N) x
  refine kn_eq ⟨h.le, fun hl => ?_, fun u hu => ?_⟩
  · have := h.b hl; unfold bth at this ⊢; rw [fwb_turn, fwb_turn, Bool.and_comm]; exact this
  · have := h.no u hu; unfold bth at this ⊢; rw [fwb_turn, fwb_turn, Bool.and_comm]; exact this
set_option maxRecDepth 100000 in
set_option maxHeartbeats 8000000 in
theorem walk_net (n i j : Int) (v : Value) (es : List E) (w : World) (hv : SlE w v es) (hlen : es.length ≤ 9223372036854775807) (hc : nck n es ≠ 0) :
    Calls Try.prog 5 #[.agg #[.int .i64 n, v], .int .i64 i, .int .i64 j] w fun e w' => e = .returned (.bool true) ∧ Below w.heap.size w w' := by
  obtain ⟨a0, c0, rfl⟩ := hv.val
  have HV : Hid _ := hv
  have HC : Hid _ := hc
  have hz : (nck n es != 0) = true := by simp [hc]
  clear hv hc
  go_enter Try.func5, Try.ntmps5
  go_wp2_with fail
  have P0 : Hid _ := box2_new w (n : Int) (.slice a0 es.length c0) 24
  have B0 : Hid (Below w.heap.size w (w.alloc (.cells #[.int .i64 n, .slice a0 es.length c0] 24))) := balloc (Below.refl _ _) _
  have hz0 : (w.alloc (.cells #[.int .i64 n, .slice a0 es.length c0] 24)).heap.size = w.heap.size + 1 := by simp
  generalize w.alloc (.cells #[.int .i64 n, .slice a0 es.length c0] 24) = W0 at *
  have E1 : Hid _ := lit_edges W0 [(1, 2, 0), (2, 1, 0)] #[.int .i64 1, .int .i64 2, .int .i64 0, .int .i64 2, .int .i64 1, .int .i64 0] 2 rfl rfl
  rw [hz0] at E1
  have b1 : Below W0.heap.size W0 (W0.alloc (.cells #[.int .i64 1, .int .i64 2, .int .i64 0, .int .i64 2, .int .i64 1, .int .i64 0] 34)) := balloc (Below.refl _ _) _
  have P1 : Hid _ := P0.out.below b1
  have B1 : Hid (Below w.heap.size w (W0.alloc (.cells #[.int .i64 1, .int .i64 2, .int .i64 0, .int .i64 2, .int .i64 1, .int .i64 0] 34))) := bthen B0.out b1
  clear b1 hz0
  refine (cof_yes 3 _ _ _ E1.out rnt3).mono ?_
  rintro e w2 ⟨G2, rfl, u2, -, b2⟩
  have U2 : Hid _ := u2.sl
  rw [kn3] at U2
  have P2 : Hid _ := P1.out.below b2
  have B2 : Hid (Below w.heap.size w w2) := bthen B1.out b2
  clear u2 b2 P1 B1 E1
  go_wp2_with fail
  have L3 : Hid _ := lit_nums w2 [0, 1, 1] #[.int .i64 0, .int .i64 1, .int .i64 1] 3 rfl rfl
  have b3 : Below w2.heap.size w2 (w2.alloc (.cells #[.int .i64 0, .int .i64 1, .int .i64 1] 3)) := balloc (Below.refl _ _) _
  have U3 : Hid _ := U2.out.below b3
  have P3 : Hid _ := P2.out.below b3
  have B3 : Hid (Below w.heap.size w (w2.alloc (.cells #[.int .i64 0, .int .i64 1, .int .i64 1] 3))) := bthen B2.out b3
  clear b3 P2 B2 U2
  generalize w2.alloc (.cells #[.int .i64 0, .int .i64 1, .int .i64 1] 3) = W3 at *
  generalize w2.heap.size = X3 at *
  refine (iequal_yes _ _ _ W3 U3.out L3.out (by decide)).mono ?_
  rintro e w4 ⟨rfl, b4⟩
  have P4 : Hid _ := P3.out.below b4
  have B4 : Hid (Below w.heap.size w w4) := bthen B3.out b4
  obtain ⟨p0, p1⟩ := P4.out
  clear b4 P3 B3 U3 L3
  go_wp2_with fail
  clear p0 p1
  refine (cof_net n _ es w4 (HV.out.below B4.out) hlen HC.out).mono ?_
  rintro e w5 ⟨rfl, b5⟩
  have B5 : Hid (Below w.heap.size w w5) := bthen B4.out b5
  clear b5
  go_wp2_with fail
  go_ret
  exact ⟨rfl, B5.out⟩
set_option maxRecDepth 100000 in
set_option maxHeartbeats 8000000 in
theorem walk_yes (N : Nat) (i j : Int) (v : Value) (es : List E) (w : World) (hv : SlE w v es) (hb : Rnt N es) :
    Calls Try.prog 5 #[.agg #[.int .i64 N, v], .int .i64 i, .int .i64 j] w fun e w' => e = .returned (.bool true) ∧ Below w.heap.size w w' := by
  obtain ⟨a0, c0, rfl⟩ := hv.val
  have HV : Hid _ := hv
  have HB : Hid _ := hb
  have HBT : Hid _ := rnt_turn hb
  have hn64 := hb.n64
  have hn1 := hb.n1
  have HKI : Hid (∀ x y, x < N → y < N → (kn (fwb (fun _ => true) es N) x = kn (fwb (fun _ => true) es N) y ↔ (fwb (fun _ => true) es N x y && fwb (fun _ => true) es N y x) = true)) := fun x y hx hy => (lds_fwb hb.inn).kn_iff hx hy
  have HKT : Hid (∀ x, kn (fwb (fun _ => true) (es.map trn) N) x = kn (fwb (fun _ => true) es N) x) := kn_turn
  clear hv hb
  go_enter Try.func5, Try.ntmps5
  go_wp2_with fail
  have P0 : Hid _ := box2_new w (N : Int) (.slice a0 es.length c0) 24
  have B0 : Hid (Below w.heap.size w (w.alloc (.cells #[.int .i64 N, .slice a0 es.length c0] 24))) := balloc (Below.refl _ _) _
  have hz0 : (w.alloc (.cells #[.int .i64 N, .slice a0 es.length c0] 24)).heap.size = w.heap.size + 1 := by simp
  generalize w.alloc (.cells #[.int .i64 N, .slice a0 es.length c0] 24) = W0 at *
  have E1 : Hid _ := lit_edges W0 [(1, 2, 0), (2, 1, 0)] #[.int .i64 1, .int .i64 2, .int .i64 0, .int .i64 2, .int .i64 1, .int .i64 0] 2 rfl rfl
  rw [hz0] at E1
  have b1 : Below W0.heap.size W0 (W0.alloc (.cells #[.int .i64 1, .int .i64 2, .int .i64 0, .int .i64 2, .int .i64 1, .int .i64 0] 34)) := balloc (Below.refl _ _) _
  have P1 : Hid _ := P0.out.below b1
  have B1 : Hid (Below w.heap.size w (W0.alloc (.cells #[.int .i64 1, .int .i64 2, .int .i64 0, .int .i64 2, .int .i64 1, .int .i64 0] 34))) := bthen B0.out b1
  clear b1 hz0
  refine (cof_yes 3 _ _ _ E1.out rnt3).mono ?_
  rintro e w2 ⟨G2, rfl, u2, -, b2⟩
  have U2 : Hid _ := u2.sl
  rw [kn3] at U2
  have P2 : Hid _ := P1.out.below b2
  have B2 : Hid (Below w.heap.size w w2) := bthen B1.out b2
  clear u2 b2 P1 B1 E1
  go_wp2_with fail
  have L3 : Hid _ := lit_nums w2 [0, 1, 1] #[.int .i64 0, .int .i64 1, .int .i64 1] 3 rfl rfl
  have b3 : Below w2.heap.size w2 (w2.alloc (.cells #[.int .i64 0, .int .i64 1, .int .i64 1] 3)) := balloc (Below.refl _ _) _
  have U3 : Hid _ := U2.out.below b3
  have P3 : Hid _ := P2.out.below b3
  have B3 : Hid (Below w.heap.size w (w2.alloc (.cells #[.int .i64 0, .int .i64 1, .int .i64 1] 3))) := bthen B2.out b3
  clear b3 P2 B2 U2
  generalize w2.alloc (.cells #[.int .i64 0, .int .i64 1, .int .i64 1] 3) = W3 at *
  generalize w2.heap.size = X3 at *
  refine (iequal_yes _ _ _ W3 U3.out L3.out (by decide)).mono ?_
  rintro e w4 ⟨rfl, b4⟩
  have P4 : Hid _ := P3.out.below b4
  have B4 : Hid (Below w.heap.size w w4) := bthen B3.out b4
  obtain ⟨p0, p1⟩ := P4.out
  clear b4 P3 B3 U3 L3
  go_wp2_with fail
  clear p0 p1
  refine (cof_yes N _ es w4 (HV.out.below B4.out) HB.out).mono ?_
  rintro e w5 ⟨G5, rfl, u5, -, b5⟩
  obtain ⟨K, hK⟩ : ∃ K, kn (fwb (fun _ => true) es N) = K := ⟨_, rfl⟩
  rw [hK] at u5 HKI HKT
  clear hK
  have U5 : Hid _ := u5
  have P5 : Hid _ := P4.out.below b5
  have B5 : Hid (Below w.heap.size w w5) := bthen B4.out b5
  obtain ⟨p0, p1⟩ := P5.out
  clear u5 b5 P4 B4
  go_wp2_with fail
  clear p0 p1
  refine (freach_yes N _ es w5 (HV.out.below B5.out) HB.out).mono ?_
  rintro e w6 ⟨R6, Gs6, rfl, t6, b6⟩
  obtain ⟨TT, hT⟩ : ∃ TT, fwb (fun _ => true) es N = TT := ⟨_, rfl⟩
  rw [hT] at t6 HKI
  clear hT
  have T6 : Hid _ := t6
  have U6 : Hid _ := U5.out.below b6
  have P6 : Hid _ := P5.out.below b6
  have B6 : Hid (Below w.heap.size w w6) := bthen B5.out b6
  obtain ⟨p0, p1⟩ := P6.out
  clear t6 b6 P5 B5 U5
  go_wp2_with fail
  clear p0 p1
  refine (turn_yes N _ es w6 (HV.out.below B6.out) HB.out.gn).mono ?_
  rintro e w7 ⟨u, rfl, e7, b7⟩
  obtain ⟨L, hL⟩ : ∃ L, es.map trn = L := ⟨_, rfl⟩
  have HL : Hid _ := hL
  rw [hL] at e7 HBT HKT
  clear hL
  have HT : Hid _ := e7.sl
  have T7 : Hid _ := T6.out.below b7
  have U7 : Hid _ := U6.out.below b7
  have P7 : Hid _ := P6.out.below b7
  have B7 : Hid (Below w.heap.size w w7) := bthen B6.out b7
  obtain ⟨a1, c1, rfl⟩ := HT.out.val
  have A8 : Hid (Below w7.heap.size w7 (w7.alloc (.cells #[.int .i64 N, .slice a1 L.length c1] 24))) := balloc (Below.refl _ _) _
  have P8 : Hid _ := P7.out.below A8.out
  have Q8 : Hid _ := box2_new w7 (N : Int) (.slice a1 L.length c1) 24
  have H8 : Hid _ := HT.out.below A8.out
  have T8 : Hid _ := T7.out.below A8.out
  have U8 : Hid _ := U7.out.below A8.out
  have B8 : Hid (Below w.heap.size w (w7.alloc (.cells #[.int .i64 N, .slice a1 L.length c1] 24))) := balloc B7.out _
  obtain ⟨p0, p1⟩ := P8.out
  obtain ⟨q0, q1⟩ := Q8.out
  clear b7 e7 P6 B6 U6 T6 A8 HT T7 U7 P7 B7
  go_wp2_with fail
  clear p0 p1 q0 q1
  obtain ⟨H, hH⟩ : ∃ H, w7.heap.size = H := ⟨_, rfl⟩
  rw [hH] at Q8 ⊢
  clear hH Q8
  generalize w7.alloc (.cells #[.int .i64 N, .slice a1 L.length c1] 24) = w8 at *
  refine (cof_yes N _ L w8 H8.out HBT.out).mono ?_
  rintro e w9 ⟨G9, rfl, u9, -, b9⟩
  have V9 : Hid (Ur w9 G9 N (fun x => ((K x : Nat) : Int))) := u9.congr (fun x _ => by rw [HKT.out])
  have T9 : Hid _ := T8.out.below b9
  have U9 : Hid _ := U8.out.below b9
  have P9 : Hid _ := P8.out.below b9
  have B9 : Hid (Below w.heap.size w w9) := bthen B8.out b9
  obtain ⟨p0, p1⟩ := P9.out
  clear u9 b9 P8 B8 U8 T8
  go_wp2_with fail
  go_quiet (first
    | (go_at_call 23; exact Calls.quiet_of_same (within_any _ N _ hn1 hn64)))
  obtain ⟨x, hx⟩ : ∃ x, wi i N = x := ⟨_, rfl⟩
  obtain ⟨y, hy⟩ : ∃ y, wi j N = y := ⟨_, rfl⟩
  have hxN : x < N := by rw [← hx]; exact wi_lt i hn1
  have hyN : y < N := by rw [← hy]; exact wi_lt j hn1
  rw [hx, hy]
  clear hx hy p0 p1
  have T10 : Hid _ := T9.out.below (bdrewN (Below.refl _ _) nq)
  have U10 : Hid _ := U9.out.below (bdrewN (Below.refl _ _) nq)
  have V10 : Hid _ := V9.out.below (bdrewN (Below.refl _ _) nq)
  have B10 : Hid (Below w.heap.size w (w9.drewN nq)) := bdrewN B9.out nq
  clear P9 B9 T9 U9 V9
  generalize w9.drewN nq = w10 at *
  go_wp2_with fail
  have hki := HKI.out x y hxN hyN
  have hxi : (x : Int) < (N : Int) := by omega
  have hyi : (y : Int) < (N : Int) := by omega
  have s1 := U10.out.sl
  have s2 := V10.out.sl
  obtain ⟨d1, -⟩ := U10.out.cell x hxN
  obtain ⟨d2, -⟩ := U10.out.cell y hyN
  have h1 := T10.out.head x hxN
  have h2 := T10.out.head y hyN
  obtain ⟨c1', -⟩ := (T10.out.row x hxN).cell y hyN
  obtain ⟨c2', -⟩ := (T10.out.row y hyN).cell x hxN
  have S1 : Hid _ := s1
  have S2 : Hid _ := s2
  clear s1 s2 T10 U10 V10
  obtain ⟨a, ha⟩ : ∃ a, K x = a := ⟨_, rfl⟩
  obtain ⟨b, hb⟩ : ∃ b, K y = b := ⟨_, rfl⟩
  rw [ha] at d1 hki
  rw [hb] at d2 hki
  clear ha hb
  have hne : Nonempty (Later w10) := ⟨⟨w10, Below.refl _ _⟩⟩
  have k1 : ∀ u : Later w10, u.w.cell? ⟨G5, x, none⟩ = some (.int .i64 ((a : Nat) : Int)) := fun u => u.cell d1
  have k2 : ∀ u : Later w10, u.w.cell? ⟨G5, y, none⟩ = some (.int .i64 ((b : Nat) : Int)) := fun u => u.cell d2
  have k3 : ∀ u : Later w10, u.w.cell? ⟨R6, x, none⟩ = some (.slice (some ⟨Gs6 x, 0, none⟩) N N) := fun u => u.cell h1
  have k4 : ∀ u : Later w10, u.w.cell? ⟨R6, y, none⟩ = some (.slice (some ⟨Gs6 y, 0, none⟩) N N) := fun u => u.cell h2
  have k5 : ∀ u : Later w10, u.w.cell? ⟨Gs6 x, y, none⟩ = some (encb (TT x y)) := fun u => u.cell c1'
  have k6 : ∀ u : Later w10, u.w.cell? ⟨Gs6 y, x, none⟩ = some (encb (TT y x)) := fun u => u.cell c2'
  clear d1 d2 h1 h2 c1' c2'
  cases hp : TT x y <;> cases hq : TT y x
  all_goals
    rw [hp] at k5 hki
    rw [hq] at k6 hki
    clear hp hq
    simp only [encb] at k5 k6
  · have t1 : ((a : Int) == (b : Int)) = false := by simp at hki; simp; omega
    have HKX : Hid _ := hki
    clear hki
    refine wp_region_later (by kernel_rfl) (by kernel_rfl) ?_
    iterate 25 (quiet_step (first
      | (go_at_call 14; exact Calls.later_of (iequal_yes _ _ _ _ (S1.out.below (Later.bel _)) (S2.out.below (Later.bel _)) (by rw [lst_length]; omega)))))
    iterate 7 (rw [wpQuiet]; go_simp)
    repeat (quiet_step (first
      | (go_at_call 14; exact Calls.later_of (iequal_yes _ _ _ _ (S1.out.below (Later.bel _)) (S2.out.below (Later.bel _)) (by rw [lst_length]; omega)))))
    refine wpQuiet_nil ?_
    intro u
    go_wp2_with fail
    go_ret
    exact ⟨rfl, bthen B10.out u.bel⟩
  · have t1 : ((a : Int) == (b : Int)) = false := by simp at hki; simp; omega
    have HKX : Hid _ := hki
    clear hki
    refine wp_region_later (by kernel_rfl) (by kernel_rfl) ?_
    iterate 25 (quiet_step (first
      | (go_at_call 14; exact Calls.later_of (iequal_yes _ _ _ _ (S1.out.below (Later.bel _)) (S2.out.below (Later.bel _)) (by rw [lst_length]; omega)))))
    iterate 7 (rw [wpQuiet]; go_simp)
    repeat (quiet_step (first
      | (go_at_call 14; exact Calls.later_of (iequal_yes _ _ _ _ (S1.out.below (Later.bel _)) (S2.out.below (Later.bel _)) (by rw [lst_length]; omega)))))
    refine wpQuiet_nil ?_
    intro u
    go_wp2_with fail
    go_ret
    exact ⟨rfl, bthen B10.out u.bel⟩
  · have t1 : ((a : Int) == (b : Int)) = false := by simp at hki; simp; omega
    have HKX : Hid _ := hki
    clear hki
    refine wp_region_later (by kernel_rfl) (by kernel_rfl) ?_
    repeat (quiet_step (first
      | (go_at_call 14; exact Calls.later_of (iequal_yes _ _ _ _ (S1.out.below (Later.bel _)) (S2.out.below (Later.bel _)) (by rw [lst_length]; omega)))))
    refine wpQuiet_nil ?_
    intro _ hwu
    obtain ⟨u, rfl⟩ := hwu
    go_wp2_with fail
    go_ret
    exact ⟨rfl, bthen B10.out u.bel⟩
  · have t1 : ((a : Int) == (b : Int)) = true := by simp at hki; simp; omega
    have HKX : Hid _ := hki
    clear hki
    refine wp_region_later (by kernel_rfl) (by kernel_rfl) ?_
    repeat (quiet_step (first
      | (go_at_call 14; exact Calls.later_of (iequal_yes _ _ _ _ (S1.out.below (Later.bel _)) (S2.out.below (Later.bel _)) (by rw [lst_length]; omega)))))
    refine wpQuiet_nil ?_
    intro _ hwu
    obtain ⟨u, rfl⟩ := hwu
    go_wp2_with fail
    go_ret
    exact ⟨rfl, bthen B10.out u.bel⟩
theorem walk (n i j : Int) (v : Value) (es : List E) (w : World) (hv : SlE w v es) (hlen : es.length ≤ 9223372036854775807) :
    Calls Try.prog 5 #[.agg #[.int .i64 n, v], .int .i64 i, .int .i64 j] w fun e w' => e = .returned (.bool true) ∧ Below w.heap.size w w' := by
  by_cases hc : nck n es = 0
  · obtain ⟨hb, hn⟩ := bn_of hc
    rw [← hn]
    exact walk_yes n.toNat i j v es w hv hb
  · exact walk_net n i j v es w hv hlen hc
end Go.Proofs.Ytkklgnfimkojlaa.CLeads
