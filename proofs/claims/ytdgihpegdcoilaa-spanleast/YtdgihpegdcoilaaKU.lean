/-
  Contract: span.Tree.
-/
import Derived.Test.YtdgihpegdcoilaaKT
import Derived.Deep.DeepCutAuto
namespace Go.Proofs.Ytdgihpegdcoilaa
open Go.RowKit
open Nm Kk
attribute [local go_sem ↓] Go.wp_at_zero Go.wp_at_succ

set_option maxRecDepth 100000 in
set_option maxHeartbeats 8000000 in
theorem tree_no (n : Int) (v : Value) (es : List E) (w : World) (hv : SlE w v es) (hlen : es.length ≤ 9223372036854775807) (hc : nck n es ≠ 0) :
    Calls Try.prog 17 #[.agg #[.int .i64 n, v]] w fun e w' => e = .returned (.tuple #[.slice none 0 0, .int .i64 (nck n es)]) ∧ Below w.heap.size w w' := by
  obtain ⟨a0, c0, rfl⟩ := hv.val
  have HV : Hid _ := hv
  have hz : (nck n es != 0) = true := by simp [hc]
  clear hv hc
  go_enter Try.func17, Try.ntmps17
  go_wp2_with fail
  have B0 : Hid (Below w.heap.size w (w.alloc (.cells #[.int .i64 n, .slice a0 es.length c0] 35))) := balloc (Below.refl _ _) _
  generalize w.alloc (.cells #[.int .i64 n, .slice a0 es.length c0] 35) = W0 at *
  refine (ncheck_any n _ es W0 (HV.out.below B0.out) hlen).mono ?_
  rintro e w1 ⟨rfl, b1⟩
  go_wp2_with fail
  go_ret2
  exact ⟨rfl, bthen B0.out b1⟩

set_option maxRecDepth 100000 in
set_option maxHeartbeats 8000000 in
theorem tree_yes (n : Nat) (v : Value) (es : List E) (w : World) (hv : SlE w v es) (hg : Gn n es) :
    Calls Try.prog 17 #[.agg #[.int .i64 n, v]] w fun e w' => ∃ u, e = .returned (.tuple #[u, .int .i64 0]) ∧ Is w' w.heap.size u (ints (tree es)) ∧ Below w.heap.size w w' := by
  obtain ⟨a0, c0, rfl⟩ := hv.val
  have HV : Hid _ := hv
  have hl := hg.len
  have HG : Hid _ := hg
  have HC : Hid (nck n es = 0) := nck_zero.2 hg
  have hn : n ≤ 64 := by have := hg.n64; omega
  clear hv hg
  go_enter Try.func17, Try.ntmps17
  go_wp2_with fail
  have P0 : Hid _ := box2_new w (n : Int) (.slice a0 es.length c0) 35
  have B0 : Hid (Below w.heap.size w (w.alloc (.cells #[.int .i64 (n : Int), .slice a0 es.length c0] 35))) := balloc (Below.refl _ _) _
  generalize w.alloc (.cells #[.int .i64 (n : Int), .slice a0 es.length c0] 35) = W0 at *
  refine (ncheck_any n _ es W0 (HV.out.below B0.out) (by omega)).mono ?_
  rintro e w1 ⟨rfl, b1⟩
  rw [HC.out]
  have P1 : Hid _ := P0.out.below b1
  have B1 : Hid (Below w.heap.size w w1) := bthen B0.out b1
  clear b1 P0 B0
  go_wp2_with fail
  have V1 : Hid _ := vb_new w1 (.slice none 0 0) 23
  have P2 : Hid _ := P1.out.below (balloc (Below.refl _ _) (.cells #[.slice none 0 0] 23))
  have B2 : Hid (Below w.heap.size w (w1.alloc (.cells #[.slice none 0 0] 23))) := balloc B1.out _
  have HV1 : Hid _ := HV.out.below B1.out
  have BB1 : Hid (Below w1.heap.size w1 (w1.alloc (.cells #[.slice none 0 0] 23))) := balloc (Below.refl _ _) _
  have hsz : w1.heap.size < (w1.alloc (.cells #[.slice none 0 0] 23)).heap.size := by simp
  generalize w1.alloc (.cells #[.slice none 0 0] 23) = W2 at *
  obtain ⟨B, hB⟩ : ∃ B, w1.heap.size = B := ⟨_, rfl⟩
  rw [hB] at hsz V1 ⊢
  have HBq : Hid _ := hB
  clear hB
  have p0 := P2.out.g0
  have p1 := P2.out.g1
  have q0 : Hid _ := P1.out.g0
  have q1 : Hid _ := P1.out.g1
  go_region_held3 (fun w' => w'.cell? ⟨w.heap.size, 0, none⟩ = some (.int .i64 n) ∧ w'.cell? ⟨w.heap.size, 1, none⟩ = some (.slice a0 es.length c0)) (first | exact KEEP.out | go_keep)
    (first
     | (go_at_call 34; refine (Un.alone_any n _ hn).mono ?_; rintro e w3 ⟨H, rfl, hH, x3, u3, b3⟩; have KEEP : Hid (w3.cell? ⟨w.heap.size, 0, none⟩ = some (.int .i64 n) ∧ w3.cell? ⟨w.heap.size, 1, none⟩ = some (.slice a0 es.length c0)) := (by exact ⟨kept b3 p0, kept b3 p1⟩); have Z3 : Hid (Below w1.heap.size w1 w3) := (by first | exact bthen BB1.out b3 | exact bthen (Below.drew BB1.out) b3 | exact bthen (Below.drew (Below.drew BB1.out)) b3 | exact bthen (Below.drew (Below.drew (Below.drew BB1.out))) b3); have V3 : Hid (Vb w3 B (.slice none 0 0) 23) := (by exact V1.out.frame (b3.block B hsz)); have hBg : B < W2.heap.size := (by exact hsz); have hgH : W2.heap.size < H := (by exact hH))
     | (go_at_call 38; refine (take_tree n H W2.heap.size B _ es w1 _ HV1.out HG.out (by first | exact Z3.out | exact Below.drew Z3.out | exact Below.drew (Below.drew Z3.out) | exact Below.drew (Below.drew (Below.drew Z3.out))) x3 ⟨u3.block⟩ ⟨V3.out.at_⟩ (by omega) (by omega) (by omega) (by have := HBq.out; omega) (by have := HBq.out; omega)).mono ?_; rintro e w4 ⟨rfl, ⟨u, v4, s4⟩, z4⟩; have S4 : Hid (Is w4 w.heap.size u (ints (tree es))) := (by exact s4.mono (Nat.le_trans B1.out.size Z3.out.size)); have Z4 : Hid (Below w.heap.size w w4) := (by exact bthen B1.out z4); have KEEP : Hid (w4.cell? ⟨w.heap.size, 0, none⟩ = some (.int .i64 n) ∧ w4.cell? ⟨w.heap.size, 1, none⟩ = some (.slice a0 es.length c0)) := (by exact ⟨kept z4 q0.out, kept z4 q1.out⟩); obtain ⟨t0, t1⟩ := v4.cell)
     | fail)
  all_goals
    go_wp2_with fail
    go_ret2
    exact ⟨_, rfl, S4.out, Z4.out⟩
end Go.Proofs.Ytdgihpegdcoilaa
