/-
  Contracts: Dist, Ends, Lift.
-/
import Derived.Test.YtlmichnnpameeaaBC
import Derived.Test.YtlmichnnpameeaaMU
namespace Go.Proofs.Ytlmichnnpameeaa
open Go.RowKit
open Nm Wm Dm Bm Ry
attribute [local go_sem ↓] Go.wp_at_zero Go.wp_at_succ

theorem bstart_upd (s : Nat) : upd (fun _ => (1099511627776 : Int)) s 0 = Dm.start s := by
  funext i; unfold upd Dm.start; rfl
theorem start_zero (N s : Nat) : ∀ v, v < N → 0 ≤ Dm.start s v ∧ Dm.start s v ≤ far := by
  intro v _; unfold Dm.start; split <;> decide
theorem zero_zero (N : Nat) : ∀ v, v < N → 0 ≤ (fun _ : Nat => (0 : Int)) v ∧ (fun _ : Nat => (0 : Int)) v ≤ far := by
  intro v _; exact ⟨Int.le_refl _, show (0 : Int) ≤ far by decide⟩
set_option maxRecDepth 100000 in
set_option maxHeartbeats 8000000 in
theorem bdist_net (n s : Int) (v : Value) (es : List E) (w : World) (hv : SlE w v es) (hlen : es.length ≤ 9223372036854775807) (hc : nck n es ≠ 0) :
    Calls Try.prog 22 #[.agg #[.int .i64 n, v], .int .i64 s] w fun e w' => e = .returned (.tuple #[.slice none 0 0, .int .i64 (nck n es)]) ∧ Below w.heap.size w w' := by
  obtain ⟨a0, c0, rfl⟩ := hv.val
  have HV : Hid _ := hv
  have hz : (nck n es != 0) = true := by simp [hc]
  clear hv hc
  go_enter Try.func22, Try.ntmps22
  go_wp2_with fail
  have P0 : Hid _ := box2_new w n (.slice a0 es.length c0) 24
  have B0 : Hid (Below w.heap.size w (w.alloc (.cells #[.int .i64 n, .slice a0 es.length c0] 24))) := balloc (Below.refl _ _) _
  generalize w.alloc (.cells #[.int .i64 n, .slice a0 es.length c0] 24) = W0 at *
  refine (ncheck_any n _ es W0 (HV.out.below B0.out) hlen).mono ?_
  rintro e w1 ⟨rfl, b1⟩
  clear P0
  go_wp2_with fail
  go_ret2
  exact ⟨rfl, bthen B0.out b1⟩
set_option maxRecDepth 100000 in
set_option maxHeartbeats 8000000 in
theorem bdist_arg (n s : Int) (v : Value) (es : List E) (w : World) (hv : SlE w v es) (hlen : es.length ≤ 9223372036854775807) (hc : nck n es = 0) (hp : plc n s = false) :
    Calls Try.prog 22 #[.agg #[.int .i64 n, v], .int .i64 s] w fun e w' => e = .returned (.tuple #[.slice none 0 0, .int .i64 1]) ∧ Below w.heap.size w w' := by
  obtain ⟨a0, c0, rfl⟩ := hv.val
  have HV : Hid _ := hv
  have HC : Hid _ := hc
  have HP : Hid _ := hp
  clear hv hc hp
  go_enter Try.func22, Try.ntmps22
  go_wp2_with fail
  have P0 : Hid _ := box2_new w n (.slice a0 es.length c0) 24
  have B0 : Hid (Below w.heap.size w (w.alloc (.cells #[.int .i64 n, .slice a0 es.length c0] 24))) := balloc (Below.refl _ _) _
  generalize w.alloc (.cells #[.int .i64 n, .slice a0 es.length c0] 24) = W0 at *
  refine (ncheck_any n _ es W0 (HV.out.below B0.out) hlen).mono ?_
  rintro e w1 ⟨rfl, b1⟩
  rw [HC.out]
  have B1 : Hid (Below w.heap.size w w1) := bthen B0.out b1
  have P1 : Hid _ := P0.out.below b1
  obtain ⟨p0, p1⟩ := P1.out
  clear b1 P0 B0
  go_wp2_with fail
  refine (isPlace_at n s _ _ _ _ w1 HP.out).mono ?_
  rintro e w2 ⟨rfl, b2⟩
  go_wp2_with fail
  go_ret2
  exact ⟨rfl, bthen B1.out b2⟩
set_option maxRecDepth 100000 in
set_option maxHeartbeats 8000000 in
theorem bdist_yes (N s : Nat) (v : Value) (es : List E) (w : World) (hv : SlE w v es) (hb : Rnt N es) (hsN : s < N) (hs : (rns es (Dm.start s) N).s = -1) :
    Calls Try.prog 22 #[.agg #[.int .i64 N, v], .int .i64 s] w fun e w' => ∃ G, e = .returned (.tuple #[.slice (some ⟨G, 0, none⟩) N N, .int .i64 0]) ∧ w.heap.size ≤ G ∧ Ur w' G N (rns es (Dm.start s) N).d ∧ Below w.heap.size w w' := by
  obtain ⟨a0, c0, rfl⟩ := hv.val
  have HV : Hid _ := hv
  have HB : Hid _ := hb
  have HC : Hid _ := hb.nck
  have HSK : Hid _ := hs
  have hn1 := hb.n1
  have hn64 := hb.n64
  have hlen : es.length ≤ 9223372036854775807 := by have := hb.len; omega
  have hsi : (s : Int) < (N : Int) := by omega
  have HPL : Hid (plc N s = true) := plc_yes (by omega) hsi
  clear hv hb hs
  go_enter Try.func22, Try.ntmps22
  go_wp2_with fail
  have P0 : Hid _ := box2_new w (N : Int) (.slice a0 es.length c0) 24
  have B0 : Hid (Below w.heap.size w (w.alloc (.cells #[.int .i64 N, .slice a0 es.length c0] 24))) := balloc (Below.refl _ _) _
  generalize w.alloc (.cells #[.int .i64 N, .slice a0 es.length c0] 24) = W0 at *
  refine (ncheck_any (N : Int) _ es W0 (HV.out.below B0.out) hlen).mono ?_
  rintro e w1 ⟨rfl, b1⟩
  rw [HC.out]
  have B1 : Hid (Below w.heap.size w w1) := bthen B0.out b1
  have P1 : Hid _ := P0.out.below b1
  obtain ⟨p0, p1⟩ := P1.out
  clear b1 P0 B0
  go_wp2_with fail
  clear p0 p1
  refine (isPlace_at N s _ _ _ _ w1 HPL.out).mono ?_
  rintro e w2 ⟨rfl, b2⟩
  have B2 : Hid (Below w.heap.size w w2) := bthen B1.out b2
  have P2 : Hid _ := P1.out.below b2
  clear b2 P1 B1
  have L3 : Hid _ := cell_new w2 #[.int .i64 1099511627776] 3 0 _ rfl
  have B3 : Hid (Below w.heap.size w (w2.alloc (.cells #[.int .i64 1099511627776] 3))) := balloc B2.out _
  have P3 : Hid _ := P2.out.below (balloc (Below.refl _ _) (.cells #[.int .i64 1099511627776] 3))
  obtain ⟨p0, p1⟩ := P2.out
  obtain ⟨k0, k1⟩ := P3.out
  go_wp2_with fail
  clear p0 p1 k0 k1
  generalize w2.alloc (.cells #[.int .i64 1099511627776] 3) = W3 at *
  refine (repeat_any w2.heap.size N 1099511627776 W3 hn1 hn64 L3.out).mono ?_
  rintro e w4 ⟨rfl, ur4, b4⟩
  have B4 : Hid (Below w.heap.size w w4) := bthen B3.out b4
  have GW : Hid (w.heap.size ≤ W3.heap.size) := B3.out.size
  obtain ⟨G, hG⟩ : ∃ G, W3.heap.size = G := ⟨_, rfl⟩
  rw [hG] at ur4 GW ⊢
  have YG : Hid (w.heap.size ≠ G) := by
    have h1 : w.heap.size < w2.heap.size := World.block_lt_of_cell? w2 ⟨w.heap.size, 0, none⟩ P2.out.g0
    have h2 : w.heap.size < W3.heap.size := World.block_lt_of_cell? W3 ⟨w.heap.size, 0, none⟩ P3.out.g0
    unfold Hid; omega
  have P4 : Hid _ := P3.out.below b4
  have U5 : Hid _ := ur4.put s 0
  rw [bstart_upd] at U5
  obtain ⟨c4, f4⟩ := ur4.cell s hsN
  obtain ⟨p0, p1⟩ := P4.out
  have q0 : (w4.setCell ⟨G, s, none⟩ (.int .i64 0)).cell? ⟨w.heap.size, 0, none⟩ = some (.int .i64 N) := by
    have := Below.heap_setCell w4 ⟨G, s, none⟩ (.int .i64 0) w.heap.size YG.out
    unfold World.cell? at *; rw [this]; exact p0
  have q1 : (w4.setCell ⟨G, s, none⟩ (.int .i64 0)).cell? ⟨w.heap.size, 1, none⟩ = some (.slice a0 es.length c0) := by
    have := Below.heap_setCell w4 ⟨G, s, none⟩ (.int .i64 0) w.heap.size YG.out
    unfold World.cell? at *; rw [this]; exact p1
  have B5 : Hid (Below w.heap.size w (w4.setCell ⟨G, s, none⟩ (.int .i64 0))) := Below.setCell B4.out (by have := GW.out; simp; omega) _
  clear b4 ur4 hG
  go_wp2_with fail
  clear p0 p1 q0 q1 c4 f4
  generalize w4.setCell ⟨G, s, none⟩ (.int .i64 0) = W5 at *
  refine (settled_yes N G _ es (Dm.start s) w W5 HV.out HB.out (start_zero N s) U5.out GW.out B5.out HSK.out).mono ?_
  rintro e w6 ⟨rfl, u6, b6⟩
  have U6 : Hid _ := u6
  have B6 : Hid (Below w.heap.size w w6) := b6
  clear u6 b6
  go_wp2_with fail
  go_ret2
  exact ⟨G, rfl, GW.out, U6.out, B6.out⟩
set_option maxRecDepth 100000 in
set_option maxHeartbeats 8000000 in
theorem bdist_no (N s : Nat) (v : Value) (es : List E) (w : World) (hv : SlE w v es) (hb : Rnt N es) (hsN : s < N) (hs : (rns es (Dm.start s) N).s ≠ -1) :
    Calls Try.prog 22 #[.agg #[.int .i64 N, v], .int .i64 s] w fun e w' => e = .returned (.tuple #[.slice none 0 0, .int .i64 6]) ∧ Below w.heap.size w w' := by
  obtain ⟨a0, c0, rfl⟩ := hv.val
  have HV : Hid _ := hv
  have HB : Hid _ := hb
  have HC : Hid _ := hb.nck
  have HSK : Hid _ := hs
  have hn1 := hb.n1
  have hn64 := hb.n64
  have hlen : es.length ≤ 9223372036854775807 := by have := hb.len; omega
  have hsi : (s : Int) < (N : Int) := by omega
  have HPL : Hid (plc N s = true) := plc_yes (by omega) hsi
  clear hv hb hs
  go_enter Try.func22, Try.ntmps22
  go_wp2_with fail
  have P0 : Hid _ := box2_new w (N : Int) (.slice a0 es.length c0) 24
  have B0 : Hid (Below w.heap.size w (w.alloc (.cells #[.int .i64 N, .slice a0 es.length c0] 24))) := balloc (Below.refl _ _) _
  generalize w.alloc (.cells #[.int .i64 N, .slice a0 es.length c0] 24) = W0 at *
  refine (ncheck_any (N : Int) _ es W0 (HV.out.below B0.out) hlen).mono ?_
  rintro e w1 ⟨rfl, b1⟩
  rw [HC.out]
  have B1 : Hid (Below w.heap.size w w1) := bthen B0.out b1
  have P1 : Hid _ := P0.out.below b1
  obtain ⟨p0, p1⟩ := P1.out
  clear b1 P0 B0
  go_wp2_with fail
  clear p0 p1
  refine (isPlace_at N s _ _ _ _ w1 HPL.out).mono ?_
  rintro e w2 ⟨rfl, b2⟩
  have B2 : Hid (Below w.heap.size w w2) := bthen B1.out b2
  have P2 : Hid _ := P1.out.below b2
  clear b2 P1 B1
  have L3 : Hid _ := cell_new w2 #[.int .i64 1099511627776] 3 0 _ rfl
  have B3 : Hid (Below w.heap.size w (w2.alloc (.cells #[.int .i64 1099511627776] 3))) := balloc B2.out _
  have P3 : Hid _ := P2.out.below (balloc (Below.refl _ _) (.cells #[.int .i64 1099511627776] 3))
  obtain ⟨p0, p1⟩ := P2.out
  obtain ⟨k0, k1⟩ := P3.out
  go_wp2_with fail
  clear p0 p1 k0 k1
  generalize w2.alloc (.cells #[.int .i64 1099511627776] 3) = W3 at *
  refine (repeat_any w2.heap.size N 1099511627776 W3 hn1 hn64 L3.out).mono ?_
  rintro e w4 ⟨rfl, ur4, b4⟩
  have B4 : Hid (Below w.heap.size w w4) := bthen B3.out b4
  have GW : Hid (w.heap.size ≤ W3.heap.size) := B3.out.size
  obtain ⟨G, hG⟩ : ∃ G, W3.heap.size = G := ⟨_, rfl⟩
  rw [hG] at ur4 GW ⊢
  have YG : Hid (w.heap.size ≠ G) := by
    have h1 : w.heap.size < w2.heap.size := World.block_lt_of_cell? w2 ⟨w.heap.size, 0, none⟩ P2.out.g0
    have h2 : w.heap.size < W3.heap.size := World.block_lt_of_cell? W3 ⟨w.heap.size, 0, none⟩ P3.out.g0
    unfold Hid; omega
  have P4 : Hid _ := P3.out.below b4
  have U5 : Hid _ := ur4.put s 0
  rw [bstart_upd] at U5
  obtain ⟨c4, f4⟩ := ur4.cell s hsN
  obtain ⟨p0, p1⟩ := P4.out
  have q0 : (w4.setCell ⟨G, s, none⟩ (.int .i64 0)).cell? ⟨w.heap.size, 0, none⟩ = some (.int .i64 N) := by
    have := Below.heap_setCell w4 ⟨G, s, none⟩ (.int .i64 0) w.heap.size YG.out
    unfold World.cell? at *; rw [this]; exact p0
  have q1 : (w4.setCell ⟨G, s, none⟩ (.int .i64 0)).cell? ⟨w.heap.size, 1, none⟩ = some (.slice a0 es.length c0) := by
    have := Below.heap_setCell w4 ⟨G, s, none⟩ (.int .i64 0) w.heap.size YG.out
    unfold World.cell? at *; rw [this]; exact p1
  have B5 : Hid (Below w.heap.size w (w4.setCell ⟨G, s, none⟩ (.int .i64 0))) := Below.setCell B4.out (by have := GW.out; simp; omega) _
  clear b4 ur4 hG
  go_wp2_with fail
  clear p0 p1 q0 q1 c4 f4
  generalize w4.setCell ⟨G, s, none⟩ (.int .i64 0) = W5 at *
  refine (settled_no N G _ es (Dm.start s) w W5 HV.out HB.out (start_zero N s) U5.out GW.out B5.out HSK.out).mono ?_
  rintro e w6 ⟨rfl, b6⟩
  have B6 : Hid (Below w.heap.size w w6) := b6
  clear b6
  go_wp2_with fail
  go_ret2
  exact ⟨rfl, B6.out⟩
set_option maxRecDepth 100000 in
set_option maxHeartbeats 8000000 in
theorem ends_net (n : Int) (v : Value) (es : List E) (w : World) (hv : SlE w v es) (hlen : es.length ≤ 9223372036854775807) (hc : nck n es ≠ 0) :
    Calls Try.prog 55 #[.agg #[.int .i64 n, v]] w fun e w' => e = .returned (.tuple #[.slice none 0 0, .int .i64 (nck n es)]) ∧ Below w.heap.size w w' := by
  obtain ⟨a0, c0, rfl⟩ := hv.val
  have HV : Hid _ := hv
  have hz : (nck n es != 0) = true := by simp [hc]
  clear hv hc
  go_enter Try.func55, Try.ntmps55
  go_wp2_with fail
  have P0 : Hid _ := box2_new w n (.slice a0 es.length c0) 24
  have B0 : Hid (Below w.heap.size w (w.alloc (.cells #[.int .i64 n, .slice a0 es.length c0] 24))) := balloc (Below.refl _ _) _
  generalize w.alloc (.cells #[.int .i64 n, .slice a0 es.length c0] 24) = W0 at *
  refine (ncheck_any n _ es W0 (HV.out.below B0.out) hlen).mono ?_
  rintro e w1 ⟨rfl, b1⟩
  clear P0
  go_wp2_with fail
  go_ret2
  exact ⟨rfl, bthen B0.out b1⟩
set_option maxRecDepth 100000 in
set_option maxHeartbeats 8000000 in
theorem ends_yes (N : Nat) (v : Value) (es : List E) (w : World) (hv : SlE w v es) (hb : Rnt N es) (hs : (rns es (fun _ => 0) N).s = -1) :
    Calls Try.prog 55 #[.agg #[.int .i64 N, v]] w fun e w' => ∃ G, e = .returned (.tuple #[.slice (some ⟨G, 0, none⟩) N N, .int .i64 0]) ∧ w.heap.size ≤ G ∧ Ur w' G N (rns es (fun _ => 0) N).d ∧ Below w.heap.size w w' := by
  obtain ⟨a0, c0, rfl⟩ := hv.val
  have HV : Hid _ := hv
  have HB : Hid _ := hb
  have HC : Hid _ := hb.nck
  have HSK : Hid _ := hs
  have hn1 := hb.n1
  have hn64 := hb.n64
  have hlen : es.length ≤ 9223372036854775807 := by have := hb.len; omega
  have hmk := made_ur N hn64
  clear hv hb hs
  go_enter Try.func55, Try.ntmps55
  go_wp2_with fail
  have P0 : Hid _ := box2_new w (N : Int) (.slice a0 es.length c0) 24
  have B0 : Hid (Below w.heap.size w (w.alloc (.cells #[.int .i64 N, .slice a0 es.length c0] 24))) := balloc (Below.refl _ _) _
  generalize w.alloc (.cells #[.int .i64 N, .slice a0 es.length c0] 24) = W0 at *
  refine (ncheck_any (N : Int) _ es W0 (HV.out.below B0.out) hlen).mono ?_
  rintro e w1 ⟨rfl, b1⟩
  rw [HC.out]
  have B1 : Hid (Below w.heap.size w w1) := bthen B0.out b1
  have P1 : Hid _ := P0.out.below b1
  obtain ⟨p0, p1⟩ := P1.out
  have U2 : Hid (Ur (w1.alloc (.cells (Array.ofFn (n := N) fun _ => .int .i64 0) 3)).drew w1.heap.size N (fun _ => 0)) := ⟨heap_alloc_new _ _⟩
  have B2 : Hid (Below w.heap.size w (w1.alloc (.cells (Array.ofFn (n := N) fun _ => .int .i64 0) 3)).drew) := Below.drew (balloc B1.out _)
  have k0 := kept_alloc (x := .cells (Array.ofFn (n := N) fun _ => .int .i64 0) 3) p0
  have k1 := kept_alloc (x := .cells (Array.ofFn (n := N) fun _ => .int .i64 0) 3) p1
  clear b1 P0 B0
  go_wp2_with fail
  go_region_law
    (first
     | (go_simp; go_at_call 48; refine (settled_yes N w1.heap.size _ es (fun _ => 0) w _ HV.out HB.out (zero_zero N) U2.out B1.out.size B2.out HSK.out).mono ?_; rintro e w6 ⟨rfl, u6, b6⟩; have U6 : Hid _ := u6; have B6 : Hid (Below w.heap.size w w6) := b6; clear u6 b6; (try dsimp only))
     | fail)
  all_goals
    go_wp2_with fail
    go_ret2
    exact ⟨w1.heap.size, rfl, B1.out.size, U6.out, B6.out⟩
set_option maxRecDepth 100000 in
set_option maxHeartbeats 8000000 in
theorem ends_no (N : Nat) (v : Value) (es : List E) (w : World) (hv : SlE w v es) (hb : Rnt N es) (hs : (rns es (fun _ => 0) N).s ≠ -1) :
    Calls Try.prog 55 #[.agg #[.int .i64 N, v]] w fun e w' => e = .returned (.tuple #[.slice none 0 0, .int .i64 6]) ∧ Below w.heap.size w w' := by
  obtain ⟨a0, c0, rfl⟩ := hv.val
  have HV : Hid _ := hv
  have HB : Hid _ := hb
  have HC : Hid _ := hb.nck
  have HSK : Hid _ := hs
  have hn1 := hb.n1
  have hn64 := hb.n64
  have hlen : es.length ≤ 9223372036854775807 := by have := hb.len; omega
  have hmk := made_ur N hn64
  clear hv hb hs
  go_enter Try.func55, Try.ntmps55
  go_wp2_with fail
  have P0 : Hid _ := box2_new w (N : Int) (.slice a0 es.length c0) 24
  have B0 : Hid (Below w.heap.size w (w.alloc (.cells #[.int .i64 N, .slice a0 es.length c0] 24))) := balloc (Below.refl _ _) _
  generalize w.alloc (.cells #[.int .i64 N, .slice a0 es.length c0] 24) = W0 at *
  refine (ncheck_any (N : Int) _ es W0 (HV.out.below B0.out) hlen).mono ?_
  rintro e w1 ⟨rfl, b1⟩
  rw [HC.out]
  have B1 : Hid (Below w.heap.size w w1) := bthen B0.out b1
  have P1 : Hid _ := P0.out.below b1
  obtain ⟨p0, p1⟩ := P1.out
  have U2 : Hid (Ur (w1.alloc (.cells (Array.ofFn (n := N) fun _ => .int .i64 0) 3)).drew w1.heap.size N (fun _ => 0)) := ⟨heap_alloc_new _ _⟩
  have B2 : Hid (Below w.heap.size w (w1.alloc (.cells (Array.ofFn (n := N) fun _ => .int .i64 0) 3)).drew) := Below.drew (balloc B1.out _)
  have k0 := kept_alloc (x := .cells (Array.ofFn (n := N) fun _ => .int .i64 0) 3) p0
  have k1 := kept_alloc (x := .cells (Array.ofFn (n := N) fun _ => .int .i64 0) 3) p1
  clear b1 P0 B0
  go_wp2_with fail
  go_region_law
    (first
     | (go_simp; go_at_call 48; refine (settled_no N w1.heap.size _ es (fun _ => 0) w _ HV.out HB.out (zero_zero N) U2.out B1.out.size B2.out HSK.out).mono ?_; rintro e w6 ⟨rfl, b6⟩; have B6 : Hid (Below w.heap.size w w6) := b6; clear b6; (try dsimp only))
     | fail)
  all_goals
    go_wp2_with fail
    go_ret2
    exact ⟨rfl, B6.out⟩
set_option maxRecDepth 100000 in
set_option maxHeartbeats 8000000 in
theorem lift_net (n : Int) (v : Value) (es : List E) (w : World) (hv : SlE w v es) (hlen : es.length ≤ 9223372036854775807) (hc : nck n es ≠ 0) :
    Calls Try.prog 42 #[.agg #[.int .i64 n, v]] w fun e w' => e = .returned (.tuple #[.slice none 0 0, .int .i64 (nck n es)]) ∧ Below w.heap.size w w' := by
  obtain ⟨a0, c0, rfl⟩ := hv.val
  have HV : Hid _ := hv
  have HC : Hid _ := hc
  clear hv hc
  go_enter Try.func42, Try.ntmps42
  go_wp2_with fail
  have B0 : Hid (Below w.heap.size w (w.alloc (.cells #[.int .i64 n, .slice a0 es.length c0] 24))) := balloc (Below.refl _ _) _
  generalize w.alloc (.cells #[.int .i64 n, .slice a0 es.length c0] 24) = W0 at *
  refine (ends_net n _ es W0 (HV.out.below B0.out) hlen HC.out).mono ?_
  rintro e w1 ⟨rfl, b1⟩
  go_wp2_with fail
  go_ret2
  exact ⟨rfl, bthen B0.out b1⟩
set_option maxRecDepth 100000 in
set_option maxHeartbeats 8000000 in
theorem lift_yes (N : Nat) (v : Value) (es : List E) (w : World) (hv : SlE w v es) (hb : Rnt N es) (hs : (rns es (fun _ => 0) N).s = -1) :
    Calls Try.prog 42 #[.agg #[.int .i64 N, v]] w fun e w' => ∃ G, e = .returned (.tuple #[.slice (some ⟨G, 0, none⟩) N N, .int .i64 0]) ∧ w.heap.size ≤ G ∧ Ur w' G N (rns es (fun _ => 0) N).d ∧ Below w.heap.size w w' := by
  obtain ⟨a0, c0, rfl⟩ := hv.val
  have HV : Hid _ := hv
  have HB : Hid _ := hb
  have HSK : Hid _ := hs
  clear hv hb hs
  go_enter Try.func42, Try.ntmps42
  go_wp2_with fail
  have B0 : Hid (Below w.heap.size w (w.alloc (.cells #[.int .i64 N, .slice a0 es.length c0] 24))) := balloc (Below.refl _ _) _
  generalize w.alloc (.cells #[.int .i64 N, .slice a0 es.length c0] 24) = W0 at *
  refine (ends_yes N _ es W0 (HV.out.below B0.out) HB.out HSK.out).mono ?_
  rintro e w1 ⟨G, rfl, hG, u1, b1⟩
  have U1 : Hid _ := u1
  have B1 : Hid (Below w.heap.size w w1) := bthen B0.out b1
  have HG : Hid (w.heap.size ≤ G) := Nat.le_trans B0.out.size hG
  clear u1 b1 hG
  go_wp2_with fail
  go_ret2
  exact ⟨G, rfl, HG.out, U1.out, B1.out⟩
set_option maxRecDepth 100000 in
set_option maxHeartbeats 8000000 in
theorem lift_no (N : Nat) (v : Value) (es : List E) (w : World) (hv : SlE w v es) (hb : Rnt N es) (hs : (rns es (fun _ => 0) N).s ≠ -1) :
    Calls Try.prog 42 #[.agg #[.int .i64 N, v]] w fun e w' => e = .returned (.tuple #[.slice none 0 0, .int .i64 6]) ∧ Below w.heap.size w w' := by
  obtain ⟨a0, c0, rfl⟩ := hv.val
  have HV : Hid _ := hv
  have HB : Hid _ := hb
  have HSK : Hid _ := hs
  clear hv hb hs
  go_enter Try.func42, Try.ntmps42
  go_wp2_with fail
  have B0 : Hid (Below w.heap.size w (w.alloc (.cells #[.int .i64 N, .slice a0 es.length c0] 24))) := balloc (Below.refl _ _) _
  generalize w.alloc (.cells #[.int .i64 N, .slice a0 es.length c0] 24) = W0 at *
  refine (ends_no N _ es W0 (HV.out.below B0.out) HB.out HSK.out).mono ?_
  rintro e w1 ⟨rfl, b1⟩
  go_wp2_with fail
  go_ret2
  exact ⟨rfl, bthen B0.out b1⟩
end Go.Proofs.Ytlmichnnpameeaa
