/-
  Contract: the document's cell; a struct's box.
-/
import Derived.Test.YteediekpljjbpaaDA
namespace Go.Proofs.Yteediekpljjbpaa
open Go.RowKit
open Gm

/-- No rock there. -/
def gnd (cs : List Int) (W H x y : Int) : Bool := cl cs W H x y != 0
theorem gnd_out {cs : List Int} {W H x y : Int} (h : ¬ (0 ≤ x ∧ x < W ∧ 0 ≤ y ∧ y < H)) : gnd cs W H x y = false := by unfold gnd; rw [cl_out h]; rfl

set_option maxRecDepth 100000 in
set_option maxHeartbeats 4000000 in
theorem cell_any (W H : Int) (v : Value) (cs : List Int) (x y : Int) (w : World) (hv : SlI w v cs) (hg : Gd W H cs) :
    Calls Try.prog 23 #[.agg #[.int .i64 W, .int .i64 H, v], .int .i64 x, .int .i64 y] w fun e w' => e = .returned (.int .i64 (cl cs W H x y)) ∧ Below w.heap.size w w' := by
  obtain ⟨a0, c0, rfl⟩ := hv.val
  have HV : Hid _ := hv
  clear hv
  by_cases i1 : x < 0
  · have H1 : Hid (cl cs W H x y = 0) := cl_out (by omega)
    go_enter Try.func23, Try.ntmps23
    go_wp2_with fail
    go_ret
    exact ⟨ret_int H1.out.symm, balloc (Below.refl _ _) _⟩
  by_cases i3 : y < 0
  · have H1 : Hid (cl cs W H x y = 0) := cl_out (by omega)
    go_enter Try.func23, Try.ntmps23
    go_wp2_with fail
    go_ret
    exact ⟨ret_int H1.out.symm, balloc (Below.refl _ _) _⟩
  by_cases i2 : W ≤ x
  · have H1 : Hid (cl cs W H x y = 0) := cl_out (by omega)
    go_enter Try.func23, Try.ntmps23
    go_wp2_with fail
    go_ret
    exact ⟨ret_int H1.out.symm, balloc (Below.refl _ _) _⟩
  by_cases i4 : H ≤ y
  · have H1 : Hid (cl cs W H x y = 0) := cl_out (by omega)
    go_enter Try.func23, Try.ntmps23
    go_wp2_with fail
    go_ret
    exact ⟨ret_int H1.out.symm, balloc (Below.refl _ _) _⟩
  obtain ⟨k1, k2⟩ := idx (show 0 ≤ x by omega) (show x < W by omega) (show 0 ≤ y by omega) (show y < H by omega)
  rw [← hg.len] at k2
  have hle := hg.le
  obtain ⟨b, off, cap, hveq, hc⟩ := HV.out.some' (by omega)
  simp only [Value.slice.injEq] at hveq
  obtain ⟨rfl, -, rfl⟩ := hveq
  have HG : Hid (cl cs W H x y = cs.getD (y * W + x).toNat 0) := cl_at (by omega)
  obtain ⟨k, hk⟩ := Int.eq_ofNat_of_zero_le (show 0 ≤ y * W + x by omega)
  have hkl : k < cs.length := by omega
  have hki : (k : Int) < (cs.length : Int) := by omega
  rw [hk, Int.toNat_natCast] at HG
  have d0 := kept (balloc (Below.refl _ w) (.cells #[.int .i64 W, .int .i64 H, .slice (some ⟨b, off, none⟩) cs.length c0] 24)) (hc k hkl)
  clear hc
  obtain ⟨z, hz⟩ : ∃ z, cs.getD k 0 = z := ⟨_, rfl⟩
  rw [hz] at d0 HG
  clear hz
  rw [Int.mul_comm y W] at k1 k2 hk
  have hp1 : -9223372036854775808 ≤ W * y := by omega
  have hp2 : W * y ≤ 9223372036854775807 := by omega
  go_enter Try.func23, Try.ntmps23
  go_wp2_with fail
  go_ret
  exact ⟨ret_int HG.out.symm, balloc (Below.refl _ _) _⟩

theorem cell_new (w : World) (cs : Array Value) (t : TypeId) (i : Nat) (v : Value) (h : cs[i]? = some v) : (w.alloc (.cells cs t)).cell? ⟨w.heap.size, i, none⟩ = some v := by
  have hn := heap_alloc_new w (.cells cs t)
  unfold World.cell?
  rw [hn]
  exact h
/-- The ground's box. -/
structure Box3 (W : World) (B : Nat) (gw gh : Int) (v : Value) : Prop where
  g0 : W.cell? ⟨B, 0, none⟩ = some (.int .i64 gw)
  g1 : W.cell? ⟨B, 1, none⟩ = some (.int .i64 gh)
  g2 : W.cell? ⟨B, 2, none⟩ = some v
theorem Box3.below {W W' : World} {B : Nat} {gw gh : Int} {v : Value} (h : Box3 W B gw gh v) (hb : Below W.heap.size W W') : Box3 W' B gw gh v :=
  ⟨kept hb h.g0, kept hb h.g1, kept hb h.g2⟩
theorem box3_start (w : World) (gw gh : Int) (v : Value) : Box3 (w.alloc (.cells #[.int .i64 gw, .int .i64 gh, v] 24)) w.heap.size gw gh v :=
  ⟨cell_new w _ _ 0 _ rfl, cell_new w _ _ 1 _ rfl, cell_new w _ _ 2 _ rfl⟩

theorem box3_new (w : World) (a b : Int) (v : Value) (t : TypeId) : Box3 (w.alloc (.cells #[.int .i64 a, .int .i64 b, v] t)) w.heap.size a b v :=
  ⟨cell_new w _ _ 0 _ rfl, cell_new w _ _ 1 _ rfl, cell_new w _ _ 2 _ rfl⟩
end Go.Proofs.Yteediekpljjbpaa
