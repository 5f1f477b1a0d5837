/-
  Contracts: isGround, isOpen, and the document's cell.
-/
import Derived.Test.YtekeajencihfgaaDoorDA
namespace Go.Proofs.YtekeajencihfgaaDoor
open Go.RowKit
open Gm

/-- No rock there. -/
def gnd (cs : List Int) (W H x y : Int) : Bool := cl cs W H x y != 0
theorem gnd_out {cs : List Int} {W H x y : Int} (h : ¬ (0 ≤ x ∧ x < W ∧ 0 ≤ y ∧ y < H)) : gnd cs W H x y = false := by unfold gnd; rw [cl_out h]; rfl

set_option maxRecDepth 100000 in
set_option maxHeartbeats 4000000 in
theorem isGround_any (W H : Int) (v : Value) (cs : List Int) (x y : Int) (w : World) (hv : SlI w v cs) (hg : Gd W H cs) :
    Calls Tryd.prog 22 #[.agg #[.int .i64 W, .int .i64 H, v], .int .i64 x, .int .i64 y] w fun e w' => e = .returned (.bool (gnd cs W H x y)) ∧ Below w.heap.size w w' := by
  obtain ⟨a0, c0, rfl⟩ := hv.val
  have HV : Hid _ := hv
  clear hv
  by_cases i1 : 0 ≤ x
  · by_cases i2 : x < W
    · by_cases i3 : 0 ≤ y
      · by_cases i4 : y < H
        · obtain ⟨k1, k2⟩ := idx i1 i2 i3 i4
          rw [← hg.len] at k2
          have hle := hg.le
          obtain ⟨b, off, cap, hveq, hc⟩ := HV.out.some' (by omega)
          simp only [Value.slice.injEq] at hveq
          obtain ⟨rfl, -, rfl⟩ := hveq
          have HG : Hid (gnd cs W H x y = (cs.getD (y * W + x).toNat 0 != 0)) := by unfold Hid gnd; rw [cl_at ⟨i1, i2, i3, i4⟩]
          obtain ⟨k, hk⟩ := Int.eq_ofNat_of_zero_le (show 0 ≤ y * W + x by omega)
          have hkl : k < cs.length := by omega
          have hki : (k : Int) < (cs.length : Int) := by omega
          rw [hk, Int.toNat_natCast] at HG
          have d0 := kept (balloc (Below.refl _ w) (.cells #[.int .i64 W, .int .i64 H, .slice (some ⟨b, off, none⟩) cs.length c0] 24)) (hc k hkl)
          clear hc
          obtain ⟨z, hz⟩ : ∃ z, cs.getD k 0 = z := ⟨_, rfl⟩
          rw [hz] at d0 HG
          clear hz
          have hp1 : -9223372036854775808 ≤ y * W := by omega
          have hp2 : y * W ≤ 9223372036854775807 := by omega
          go_enter Tryd.func22, Tryd.ntmps22
          go_wp2_with fail
          go_ret
          exact ⟨ret_bool HG.out.symm, balloc (Below.refl _ _) _⟩
        · have H1 : Hid (gnd cs W H x y = false) := gnd_out (by omega)
          go_enter Tryd.func22, Tryd.ntmps22
          go_wp2_with fail
          go_ret
          exact ⟨ret_bool H1.out.symm, balloc (Below.refl _ _) _⟩
      · have H1 : Hid (gnd cs W H x y = false) := gnd_out (by omega)
        go_enter Tryd.func22, Tryd.ntmps22
        go_wp2_with fail
        go_ret
        exact ⟨ret_bool H1.out.symm, balloc (Below.refl _ _) _⟩
    · have H1 : Hid (gnd cs W H x y = false) := gnd_out (by omega)
      go_enter Tryd.func22, Tryd.ntmps22
      go_wp2_with fail
      go_ret
      exact ⟨ret_bool H1.out.symm, balloc (Below.refl _ _) _⟩
  · have H1 : Hid (gnd cs W H x y = false) := gnd_out (by omega)
    go_enter Tryd.func22, Tryd.ntmps22
    go_wp2_with fail
    go_ret
    exact ⟨ret_bool H1.out.symm, balloc (Below.refl _ _) _⟩

set_option maxRecDepth 100000 in
set_option maxHeartbeats 4000000 in
theorem cell_any (W H : Int) (v : Value) (cs : List Int) (x y : Int) (w : World) (hv : SlI w v cs) (hg : Gd W H cs) :
    Calls Tryd.prog 24 #[.agg #[.int .i64 W, .int .i64 H, v], .int .i64 x, .int .i64 y] w fun e w' => e = .returned (.int .i64 (cl cs W H x y)) ∧ Below w.heap.size w w' := by
  obtain ⟨a0, c0, rfl⟩ := hv.val
  have HV : Hid _ := hv
  clear hv
  by_cases i1 : x < 0
  · have H1 : Hid (cl cs W H x y = 0) := cl_out (by omega)
    go_enter Tryd.func24, Tryd.ntmps24
    go_wp2_with fail
    go_ret
    exact ⟨ret_int H1.out.symm, balloc (Below.refl _ _) _⟩
  by_cases i3 : y < 0
  · have H1 : Hid (cl cs W H x y = 0) := cl_out (by omega)
    go_enter Tryd.func24, Tryd.ntmps24
    go_wp2_with fail
    go_ret
    exact ⟨ret_int H1.out.symm, balloc (Below.refl _ _) _⟩
  by_cases i2 : W ≤ x
  · have H1 : Hid (cl cs W H x y = 0) := cl_out (by omega)
    go_enter Tryd.func24, Tryd.ntmps24
    go_wp2_with fail
    go_ret
    exact ⟨ret_int H1.out.symm, balloc (Below.refl _ _) _⟩
  by_cases i4 : H ≤ y
  · have H1 : Hid (cl cs W H x y = 0) := cl_out (by omega)
    go_enter Tryd.func24, Tryd.ntmps24
    go_wp2_with fail
    go_ret
    exact ⟨ret_int H1.out.symm, balloc (Below.refl _ _) _⟩
  obtain ⟨k1, k2⟩ := idx (show 0 ≤ x by omega) (show x < W by omega) (show 0 ≤ y by omega) (show y < H by omega)
  rw [← hg.len] at k2
  have hle := hg.le
  obtain ⟨b, off, cap, hveq, hc⟩ := HV.out.some' (by omega)
  simp only [Value.slice.injEq] at hveq
  obtain ⟨rfl, -, rfl⟩ := hveq
  have HG : Hid (cl cs W H x y = cs.getD (y * W + x).toNat 0) := cl_at (by omega)
  obtain ⟨k, hk⟩ := Int.eq_ofNat_of_zero_le (show 0 ≤ y * W + x by omega)
  have hkl : k < cs.length := by omega
  have hki : (k : Int) < (cs.length : Int) := by omega
  rw [hk, Int.toNat_natCast] at HG
  have d0 := kept (balloc (Below.refl _ w) (.cells #[.int .i64 W, .int .i64 H, .slice (some ⟨b, off, none⟩) cs.length c0] 24)) (hc k hkl)
  clear hc
  obtain ⟨z, hz⟩ : ∃ z, cs.getD k 0 = z := ⟨_, rfl⟩
  rw [hz] at d0 HG
  clear hz
  rw [Int.mul_comm y W] at k1 k2 hk
  have hp1 : -9223372036854775808 ≤ W * y := by omega
  have hp2 : W * y ≤ 9223372036854775807 := by omega
  go_enter Tryd.func24, Tryd.ntmps24
  go_wp2_with fail
  go_ret
  exact ⟨ret_int HG.out.symm, balloc (Below.refl _ _) _⟩

/-- Two boxes: the ground, and the step. -/
structure Two (W : World) (B : Nat) (gw gh : Int) (v : Value) (dx dy m : Int) : Prop where
  g0 : W.cell? ⟨B, 0, none⟩ = some (.int .i64 gw)
  g1 : W.cell? ⟨B, 1, none⟩ = some (.int .i64 gh)
  g2 : W.cell? ⟨B, 2, none⟩ = some v
  s0 : W.cell? ⟨B + 1, 0, none⟩ = some (.int .i64 dx)
  s1 : W.cell? ⟨B + 1, 1, none⟩ = some (.int .i64 dy)
  s2 : W.cell? ⟨B + 1, 2, none⟩ = some (.int .i64 m)
theorem Two.below {W W' : World} {B : Nat} {gw gh : Int} {v : Value} {dx dy m : Int} (h : Two W B gw gh v dx dy m) (hb : Below W.heap.size W W') : Two W' B gw gh v dx dy m :=
  ⟨kept hb h.g0, kept hb h.g1, kept hb h.g2, kept hb h.s0, kept hb h.s1, kept hb h.s2⟩
theorem cell_new (w : World) (cs : Array Value) (t : TypeId) (i : Nat) (v : Value) (h : cs[i]? = some v) : (w.alloc (.cells cs t)).cell? ⟨w.heap.size, i, none⟩ = some v := by
  have hn := heap_alloc_new w (.cells cs t)
  unfold World.cell?
  rw [hn]
  exact h
theorem two_start (w : World) (gw gh : Int) (v : Value) (dx dy m : Int) : Two ((w.alloc (.cells #[.int .i64 gw, .int .i64 gh, v] 24)).alloc (.cells #[.int .i64 dx, .int .i64 dy, .int .i64 m] 51)) w.heap.size gw gh v dx dy m := by
  have hb : Below (w.alloc (.cells #[.int .i64 gw, .int .i64 gh, v] 24)).heap.size (w.alloc (.cells #[.int .i64 gw, .int .i64 gh, v] 24)) ((w.alloc (.cells #[.int .i64 gw, .int .i64 gh, v] 24)).alloc (.cells #[.int .i64 dx, .int .i64 dy, .int .i64 m] 51)) := balloc (Below.refl _ _) _
  have hs : w.heap.size + 1 = (w.alloc (.cells #[.int .i64 gw, .int .i64 gh, v] 24)).heap.size := by simp
  refine ⟨kept hb (cell_new w _ _ 0 _ rfl), kept hb (cell_new w _ _ 1 _ rfl), kept hb (cell_new w _ _ 2 _ rfl), ?_, ?_, ?_⟩
  all_goals
    rw [hs]
    exact cell_new _ _ _ _ _ rfl

theorem isGround_at (W H : Int) (v : Value) (cs : List Int) (x y : Int) (b : Bool) (w : World) (hv : SlI w v cs) (hg : Gd W H cs) (h : gnd cs W H x y = b) :
    Calls Tryd.prog 22 #[.agg #[.int .i64 W, .int .i64 H, v], .int .i64 x, .int .i64 y] w fun e w' => e = .returned (.bool b) ∧ Below w.heap.size w w' := by
  have := isGround_any W H v cs x y w hv hg; rw [h] at this; exact this
theorem opn_gnd (cs : List Int) (W H x y dx dy m : Int) : opn (cl cs W H) x y (dx, dy, m) = (gnd cs W H (x + dx) (y + dy) && gnd cs W H (x + dx) y && gnd cs W H x (y + dy)) := rfl

set_option maxRecDepth 100000 in
set_option maxHeartbeats 4000000 in
theorem isOpen_any (W H : Int) (v : Value) (cs : List Int) (x y dx dy m : Int) (w : World) (hv : SlI w v cs) (hg : Gd W H cs) (hx : -100 ≤ x) (hx' : x ≤ 100) (hy : -100 ≤ y) (hy' : y ≤ 100) (hdx : -1 ≤ dx) (hdx' : dx ≤ 1) (hdy : -1 ≤ dy) (hdy' : dy ≤ 1) :
    Calls Tryd.prog 23 #[.agg #[.int .i64 W, .int .i64 H, v], .int .i64 x, .int .i64 y, .agg #[.int .i64 dx, .int .i64 dy, .int .i64 m]] w fun e w' => e = .returned (.bool (opn (cl cs W H) x y (dx, dy, m))) ∧ Below w.heap.size w w' := by
  obtain ⟨a0, c0, rfl⟩ := hv.val
  have HV : Hid _ := hv
  have HG : Hid _ := hg
  have HO : Hid _ := opn_gnd cs W H x y dx dy m
  clear hv hg
  go_enter Tryd.func23, Tryd.ntmps23
  go_wp2_with fail
  obtain ⟨W0, hW0⟩ : ∃ W0, W0 = (w.alloc (.cells #[.int .i64 W, .int .i64 H, .slice a0 cs.length c0] 24)).alloc (.cells #[.int .i64 dx, .int .i64 dy, .int .i64 m] 51) := ⟨_, rfl⟩
  have TW0 : Hid (Two W0 w.heap.size W H (.slice a0 cs.length c0) dx dy m) := by rw [hW0]; exact two_start _ _ _ _ _ _ _
  have BW0 : Hid (Below w.heap.size w W0) := by rw [hW0]; exact balloc (balloc (Below.refl _ _) _) _
  have SW0 : Hid (SlI W0 (.slice a0 cs.length c0) cs) := HV.out.below BW0.out
  rw [← hW0]
  clear hW0 HV
  cases e1 : gnd cs W H (x + dx) (y + dy)
  · have HF : Hid (opn (cl cs W H) x y (dx, dy, m) = false) := by rw [HO.out, e1]; rfl
    have E1 : Hid _ := e1
    clear e1
    refine (isGround_at W H _ cs _ _ _ W0 (SW0.out) HG.out E1.out).mono ?_
    rintro e W1 ⟨rfl, bW1⟩
    have TW1 : Hid _ := TW0.out.below bW1
    have SW1 : Hid _ := SW0.out.below bW1
    have BW1 : Hid (Below w.heap.size w W1) := bthen BW0.out bW1
    obtain ⟨p0, p1, p2, p3, p4, p5⟩ := TW1.out
    clear bW1
    go_wp2_with fail
    go_ret
    exact ⟨ret_bool HF.out.symm, BW1.out⟩
  cases e2 : gnd cs W H (x + dx) y
  · have HF : Hid (opn (cl cs W H) x y (dx, dy, m) = false) := by rw [HO.out, e1, e2]; rfl
    have E1 : Hid _ := e1
    have E2 : Hid _ := e2
    clear e1 e2
    refine (isGround_at W H _ cs _ _ _ W0 (SW0.out) HG.out E1.out).mono ?_
    rintro e W1 ⟨rfl, bW1⟩
    have TW1 : Hid _ := TW0.out.below bW1
    have SW1 : Hid _ := SW0.out.below bW1
    have BW1 : Hid (Below w.heap.size w W1) := bthen BW0.out bW1
    obtain ⟨p0, p1, p2, p3, p4, p5⟩ := TW1.out
    clear bW1
    go_wp2_with fail
    clear p0 p1 p2 p3 p4 p5
    refine (isGround_at W H _ cs _ _ _ W1 (SW1.out) HG.out E2.out).mono ?_
    rintro e W2 ⟨rfl, bW2⟩
    have TW2 : Hid _ := TW1.out.below bW2
    have SW2 : Hid _ := SW1.out.below bW2
    have BW2 : Hid (Below w.heap.size w W2) := bthen BW1.out bW2
    obtain ⟨p0, p1, p2, p3, p4, p5⟩ := TW2.out
    clear bW2
    go_wp2_with fail
    go_ret
    exact ⟨ret_bool HF.out.symm, BW2.out⟩
  cases e3 : gnd cs W H x (y + dy)
  all_goals
    have E1 : Hid _ := e1
    have E2 : Hid _ := e2
    have E3 : Hid _ := e3
    have HF : Hid _ := HO.out
    rw [e1, e2, e3] at HF
    clear e1 e2 e3
    refine (isGround_at W H _ cs _ _ _ W0 (SW0.out) HG.out E1.out).mono ?_
    rintro e W1 ⟨rfl, bW1⟩
    have TW1 : Hid _ := TW0.out.below bW1
    have SW1 : Hid _ := SW0.out.below bW1
    have BW1 : Hid (Below w.heap.size w W1) := bthen BW0.out bW1
    obtain ⟨p0, p1, p2, p3, p4, p5⟩ := TW1.out
    clear bW1
    go_wp2_with fail
    clear p0 p1 p2 p3 p4 p5
    refine (isGround_at W H _ cs _ _ _ W1 (SW1.out) HG.out E2.out).mono ?_
    rintro e W2 ⟨rfl, bW2⟩
    have TW2 : Hid _ := TW1.out.below bW2
    have SW2 : Hid _ := SW1.out.below bW2
    have BW2 : Hid (Below w.heap.size w W2) := bthen BW1.out bW2
    obtain ⟨p0, p1, p2, p3, p4, p5⟩ := TW2.out
    clear bW2
    go_wp2_with fail
    clear p0 p1 p2 p3 p4 p5
    refine (isGround_at W H _ cs _ _ _ W2 (SW2.out) HG.out E3.out).mono ?_
    rintro e W3 ⟨rfl, bW3⟩
    have TW3 : Hid _ := TW2.out.below bW3
    have SW3 : Hid _ := SW2.out.below bW3
    have BW3 : Hid (Below w.heap.size w W3) := bthen BW2.out bW3
    obtain ⟨p0, p1, p2, p3, p4, p5⟩ := TW3.out
    clear bW3
    go_wp2_with fail
    go_ret
    exact ⟨ret_bool HF.out.symm, BW3.out⟩
end Go.Proofs.YtekeajencihfgaaDoor
