/-
  Contract: Dist.
-/
import Derived.Test.YtefikbjjdldomaaDK
import Derived.Test.YtefikbjjdldomaaLK
import Derived.Test.YtefikbjjdldomaaRV
namespace Go.Proofs.Ytefikbjjdldomaa
open Go.RowKit
open Nm Wm Dm

theorem plc_nat {n v : Int} (h : plc n v = true) : ∃ s : Nat, v = (s : Int) ∧ (s : Int) < n := by
  have := of_decide_eq_true h
  exact ⟨v.toNat, by omega, by omega⟩
set_option maxRecDepth 100000 in
set_option maxHeartbeats 4000000 in
theorem dist_bad (n s : Int) (v : Value) (es : List E) (w : World) (hv : SlE w v es) (hlen : es.length ≤ 9223372036854775807) (hc : lk n es [s] ≠ 0) :
    Calls Try.prog 22 #[.agg #[.int .i64 n, v], .int .i64 s] w fun e w' => e = .returned (.tuple #[.slice none 0 0, .int .i64 (lk n es [s])]) ∧ Below w.heap.size w w' := by
  obtain ⟨a0, c0, rfl⟩ := hv.val
  have HV : Hid _ := hv
  have hz : (lk n es [s] != 0) = true := by simp [hc]
  clear hv hc
  go_enter Try.func22, Try.ntmps22
  go_wp2_with fail
  have B0 : Hid (Below w.heap.size w (w.alloc (.cells #[.int .i64 n, .slice a0 es.length c0] 24))) := balloc (Below.refl _ _) _
  have hz0 : (w.alloc (.cells #[.int .i64 n, .slice a0 es.length c0] 24)).heap.size = w.heap.size + 1 := by simp
  generalize w.alloc (.cells #[.int .i64 n, .slice a0 es.length c0] 24) = W0 at *
  have L1 : Hid _ := lit_nums W0 [s] #[.int .i64 s] 1 rfl rfl
  rw [hz0] at L1
  have B1 : Hid (Below w.heap.size w (W0.alloc (.cells #[.int .i64 s] 3))) := balloc B0.out _
  generalize W0.alloc (.cells #[.int .i64 s] 3) = W1 at *
  clear hz0
  refine (look_any n _ _ es [s] W1 (HV.out.below B1.out) L1.out hlen (by simp)).mono ?_
  rintro e w2 ⟨rfl, b2⟩
  go_wp2_with fail
  go_ret2
  exact ⟨rfl, bthen B1.out b2⟩
set_option maxRecDepth 100000 in
set_option maxHeartbeats 4000000 in
theorem dist_yes (N s : Nat) (v : Value) (es : List E) (w : World) (hv : SlE w v es) (hc : nps N es = 0) (hp : Pn N es) (hs : s < N) :
    Calls Try.prog 22 #[.agg #[.int .i64 N, v], .int .i64 s] w fun e w' => ∃ G d, e = .returned (.tuple #[.slice (some ⟨G, 0, none⟩) N N, .int .i64 0]) ∧ w.heap.size ≤ G ∧ Ur w' G N d ∧ IsD N es s d ∧ Below w.heap.size w w' := by
  obtain ⟨a0, c0, rfl⟩ := hv.val
  have HV : Hid _ := hv
  have HP : Hid _ := hp
  have hlen := hp.len
  have HK : Hid (lk N es [(s : Int)] = 0) := lk_ok hc (fun k hk => by
    obtain rfl : k = 0 := by simpa using hk
    exact plc_yes (by simp) (by simpa using hs))
  clear hv hc hp
  go_enter Try.func22, Try.ntmps22
  go_wp2_with fail
  have P0 : Hid _ := box2_new w (N : Int) (.slice a0 es.length c0) 24
  have B0 : Hid (Below w.heap.size w (w.alloc (.cells #[.int .i64 N, .slice a0 es.length c0] 24))) := balloc (Below.refl _ _) _
  have hz0 : (w.alloc (.cells #[.int .i64 N, .slice a0 es.length c0] 24)).heap.size = w.heap.size + 1 := by simp
  generalize w.alloc (.cells #[.int .i64 N, .slice a0 es.length c0] 24) = W0 at *
  have L1 : Hid _ := lit_nums W0 [(s : Int)] #[.int .i64 s] 1 rfl rfl
  rw [hz0] at L1
  have P1 : Hid _ := P0.out.below (balloc (Below.refl _ _) (.cells #[.int .i64 s] 3))
  have B1 : Hid (Below w.heap.size w (W0.alloc (.cells #[.int .i64 s] 3))) := balloc B0.out _
  generalize W0.alloc (.cells #[.int .i64 s] 3) = W1 at *
  clear hz0 P0 B0
  refine (look_any N _ _ es [(s : Int)] W1 (HV.out.below B1.out) L1.out (by omega) (by simp)).mono ?_
  rintro e w2 ⟨rfl, b2⟩
  rw [HK.out]
  have B2 : Hid (Below w.heap.size w w2) := bthen B1.out b2
  obtain ⟨p0, p1⟩ := P1.out.below b2
  clear b2
  go_wp2_with fail
  refine (costs_any N s _ es w2 (HV.out.below B2.out) HP.out hs).mono ?_
  rintro e w3 ⟨G, d, rfl, h1, h2, h3, b3⟩
  have H1 : Hid (w2.heap.size ≤ G) := h1
  have H2 : Hid _ := h2
  have H3 : Hid _ := h3
  have B3 : Hid (Below w.heap.size w w3) := bthen B2.out b3
  clear h1 h2 h3 b3 p0 p1
  go_wp2_with fail
  go_ret2
  exact ⟨G, d, rfl, Nat.le_trans B2.out.size H1.out, H2.out, H3.out, B3.out⟩
end Go.Proofs.Ytefikbjjdldomaa
