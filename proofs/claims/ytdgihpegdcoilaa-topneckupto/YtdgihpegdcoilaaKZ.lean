/-
  Contract: span.Neck.
-/
import Derived.Test.YtdgihpegdcoilaaKY
import Derived.Deep.DeepCutAuto
namespace Go.Proofs.Ytdgihpegdcoilaa
open Go.RowKit
open Nm Kk
attribute [local go_sem ↓] Go.wp_at_zero Go.wp_at_succ

/-- What is wrong with a neck's net and places. -/
def nkc (n : Int) (es : List E) (a b : Int) : Int := if nck n es ≠ 0 then nck n es else if plc n a = true ∧ plc n b = true ∧ a ≠ b then 0 else 1

/-- The net's box and those of the two places. -/
structure Th (W : World) (A : Nat) (n a b : Int) (u : Value) : Prop where
  g0 : W.cell? ⟨A, 0, none⟩ = some (.int .i64 n)
  g1 : W.cell? ⟨A, 1, none⟩ = some u
  a : W.cell? ⟨A + 1, 0, none⟩ = some (.int .i64 a)
  b : W.cell? ⟨A + 1 + 1, 0, none⟩ = some (.int .i64 b)
theorem Th.below {W W' : World} {A : Nat} {n a b : Int} {u : Value} (h : Th W A n a b u) (hb : Below W.heap.size W W') : Th W' A n a b u :=
  ⟨kept hb h.g0, kept hb h.g1, kept hb h.a, kept hb h.b⟩
theorem cell_at {n : Nat} (w : World) (cs : Array Value) (t : TypeId) (i : Nat) (v : Value) (hn : w.heap.size = n) (h : cs[i]? = some v) : (w.alloc (.cells cs t)).cell? ⟨n, i, none⟩ = some v := by
  subst hn; exact cell_new w cs t i v h
theorem th_new (w : World) (n a b : Int) (u : Value) : Th (((w.alloc (.cells #[.int .i64 n, u] 35)).alloc (.cells #[.int .i64 a] 3)).alloc (.cells #[.int .i64 b] 3)) w.heap.size n a b u := by
  have h := box2_new w n u 35
  exact ⟨kept_alloc (kept_alloc h.g0), kept_alloc (kept_alloc h.g1), kept_alloc (cell_at _ _ _ 0 _ (by simp) rfl), cell_at _ _ _ 0 _ (by simp) rfl⟩

set_option maxRecDepth 100000 in
set_option maxHeartbeats 8000000 in
theorem neck_net (n a b : Int) (v : Value) (es : List E) (w : World) (hv : SlE w v es) (hlen : es.length ≤ 9223372036854775807) (hc : nck n es ≠ 0) :
    Calls Try.prog 20 #[.agg #[.int .i64 n, v], .int .i64 a, .int .i64 b] w fun e w' => e = .returned (.tuple #[.int .i64 0, .int .i64 (nck n es)]) ∧ Below w.heap.size w w' := by
  obtain ⟨a0, c0, rfl⟩ := hv.val
  have HV : Hid _ := hv
  have hz : (nck n es != 0) = true := by simp [hc]
  clear hv hc
  go_enter Try.func20, Try.ntmps20
  go_wp2_with fail
  have B0 : Hid (Below w.heap.size w (((w.alloc (.cells #[.int .i64 n, .slice a0 es.length c0] 35)).alloc (.cells #[.int .i64 a] 3)).alloc (.cells #[.int .i64 b] 3))) := balloc (balloc (balloc (Below.refl _ _) _) _) _
  generalize ((w.alloc (.cells #[.int .i64 n, .slice a0 es.length c0] 35)).alloc (.cells #[.int .i64 a] 3)).alloc (.cells #[.int .i64 b] 3) = W0 at *
  refine (ncheck_any n _ es W0 (HV.out.below B0.out) hlen).mono ?_
  rintro e w1 ⟨rfl, b1⟩
  go_wp2_with fail
  go_ret2
  exact ⟨rfl, bthen B0.out b1⟩
set_option maxRecDepth 100000 in
set_option maxHeartbeats 8000000 in
theorem neck_arg (n a b : Int) (v : Value) (es : List E) (w : World) (hv : SlE w v es) (hg : Gn n es) (hbad : ¬ (plc n a = true ∧ plc n b = true ∧ a ≠ b)) :
    Calls Try.prog 20 #[.agg #[.int .i64 n, v], .int .i64 a, .int .i64 b] w fun e w' => e = .returned (.tuple #[.int .i64 0, .int .i64 1]) ∧ Below w.heap.size w w' := by
  obtain ⟨a0, c0, rfl⟩ := hv.val
  have HV : Hid _ := hv
  have hl := hg.len
  have HC : Hid (nck n es = 0) := nck_zero.2 hg
  have HX : Hid _ := hbad
  clear hv hg hbad
  go_enter Try.func20, Try.ntmps20
  go_wp2_with fail
  have T0 : Hid _ := th_new w n a b (.slice a0 es.length c0)
  have B0 : Hid (Below w.heap.size w (((w.alloc (.cells #[.int .i64 n, .slice a0 es.length c0] 35)).alloc (.cells #[.int .i64 a] 3)).alloc (.cells #[.int .i64 b] 3))) := balloc (balloc (balloc (Below.refl _ _) _) _) _
  generalize ((w.alloc (.cells #[.int .i64 n, .slice a0 es.length c0] 35)).alloc (.cells #[.int .i64 a] 3)).alloc (.cells #[.int .i64 b] 3) = W0 at *
  refine (ncheck_any n _ es W0 (HV.out.below B0.out) (by omega)).mono ?_
  rintro e w1 ⟨rfl, b1⟩
  rw [HC.out]
  have T1 : Hid _ := T0.out.below b1
  have B1 : Hid (Below w.heap.size w w1) := bthen B0.out b1
  clear b1 T0 B0
  obtain ⟨t0, t1, t2, t3⟩ := T1.out
  go_wp2_with fail
  cases h1 : plc n a
  · have H1 : Hid _ := h1
    clear h1
    refine (isPlace_at n a _ _ _ _ w1 H1.out).mono ?_
    rintro e w2 ⟨rfl, b2⟩
    have B2 : Hid (Below w.heap.size w w2) := bthen B1.out b2
    clear b2 t0 t1 t2 t3
    go_wp2_with fail
    go_ret2
    exact ⟨rfl, B2.out⟩
  have H1 : Hid _ := h1
  clear h1
  refine (isPlace_at n a _ _ _ _ w1 H1.out).mono ?_
  rintro e w2 ⟨rfl, b2⟩
  have T2 : Hid _ := T1.out.below b2
  have B2 : Hid (Below w.heap.size w w2) := bthen B1.out b2
  clear b2 T1 B1 t0 t1 t2 t3
  obtain ⟨t0, t1, t2, t3⟩ := T2.out
  go_wp2_with fail
  cases h2 : plc n b
  · have H2 : Hid _ := h2
    clear h2
    refine (isPlace_at n b _ _ _ _ w2 H2.out).mono ?_
    rintro e w3 ⟨rfl, b3⟩
    have B3 : Hid (Below w.heap.size w w3) := bthen B2.out b3
    clear b3 t0 t1 t2 t3
    go_wp2_with fail
    go_ret2
    exact ⟨rfl, B3.out⟩
  have H2 : Hid _ := h2
  clear h2
  refine (isPlace_at n b _ _ _ _ w2 H2.out).mono ?_
  rintro e w3 ⟨rfl, b3⟩
  have T3 : Hid _ := T2.out.below b3
  have B3 : Hid (Below w.heap.size w w3) := bthen B2.out b3
  clear b3 T2 B2 t0 t1 t2 t3
  obtain ⟨t0, t1, t2, t3⟩ := T3.out
  have heq : a = b := Classical.byContradiction fun h => HX.out ⟨H1.out, H2.out, h⟩
  subst heq
  have hq : (a == a) = true := by simp
  go_wp2_with fail
  go_ret2
  exact ⟨rfl, B3.out⟩

set_option maxRecDepth 100000 in
set_option maxHeartbeats 8000000 in
theorem neck_yes (n a b : Nat) (v : Value) (es : List E) (w : World) (hv : SlE w v es) (hg : Gn n es) (ha : a < n) (hb : b < n) (hab : a ≠ b) :
    Calls Try.prog 20 #[.agg #[.int .i64 n, v], .int .i64 a, .int .i64 b] w fun e w' => e = .returned (.tuple #[.int .i64 (nk es a b).1, .int .i64 (nk es a b).2]) ∧ Below w.heap.size w w' := by
  obtain ⟨a0, c0, rfl⟩ := hv.val
  have HV : Hid _ := hv
  have hl := hg.len
  have HG : Hid _ := hg
  have HC : Hid (nck n es = 0) := nck_zero.2 hg
  have hn : n ≤ 64 := by have := hg.n64; omega
  have HAB : Hid (a ≠ b) := hab
  clear hv hg hab
  go_enter Try.func20, Try.ntmps20
  go_wp2_with fail
  have T0 : Hid _ := th_new w (n : Int) (a : Int) (b : Int) (.slice a0 es.length c0)
  have B0 : Hid (Below w.heap.size w (((w.alloc (.cells #[.int .i64 (n : Int), .slice a0 es.length c0] 35)).alloc (.cells #[.int .i64 (a : Int)] 3)).alloc (.cells #[.int .i64 (b : Int)] 3))) := balloc (balloc (balloc (Below.refl _ _) _) _) _
  generalize ((w.alloc (.cells #[.int .i64 (n : Int), .slice a0 es.length c0] 35)).alloc (.cells #[.int .i64 (a : Int)] 3)).alloc (.cells #[.int .i64 (b : Int)] 3) = W0 at *
  refine (ncheck_any n _ es W0 (HV.out.below B0.out) (by omega)).mono ?_
  rintro e w1 ⟨rfl, b1⟩
  rw [HC.out]
  have T1 : Hid _ := T0.out.below b1
  have B1 : Hid (Below w.heap.size w w1) := bthen B0.out b1
  clear b1 T0 B0
  obtain ⟨t0, t1, t2, t3⟩ := T1.out
  go_wp2_with fail
  have H1 : Hid (plc (n : Int) (a : Int) = true) := plc_yes (by omega) (by omega)
  refine (isPlace_at n a _ _ _ _ w1 H1.out).mono ?_
  rintro e w2 ⟨rfl, b2⟩
  have T2 : Hid _ := T1.out.below b2
  have B2 : Hid (Below w.heap.size w w2) := bthen B1.out b2
  clear b2 T1 B1 t0 t1 t2 t3
  obtain ⟨t0, t1, t2, t3⟩ := T2.out
  go_wp2_with fail
  have H2 : Hid (plc (n : Int) (b : Int) = true) := plc_yes (by omega) (by omega)
  refine (isPlace_at n b _ _ _ _ w2 H2.out).mono ?_
  rintro e w3 ⟨rfl, b3⟩
  have T3 : Hid _ := T2.out.below b3
  have B3 : Hid (Below w.heap.size w w3) := bthen B2.out b3
  clear b3 T2 B2 t0 t1 t2 t3
  obtain ⟨t0, t1, t2, t3⟩ := T3.out
  have hq : ((a : Int) == (b : Int)) = false := by have := HAB.out; simp; omega
  go_wp2_with fail
  refine (Un.alone_any n w3 hn).mono ?_
  rintro e w4 ⟨H, rfl, hH, x4, u4, b4⟩
  have X4 : Hid _ := x4
  have U4 : Hid _ := u4
  have T4 : Hid _ := T3.out.below b4
  have B4 : Hid (Below w3.heap.size w3 w4) := b4
  have hH4 := World.block_lt_of_cell? w4 ⟨H, 0, none⟩ x4
  simp only at hH4
  clear x4 u4 b4 t0 t1 t2 t3
  have T5 : Hid (Th (((w4.alloc (.cells #[.pointer (some ⟨H, 0, none⟩)] 60)).alloc (.cells #[.int .i64 0] 3)).alloc (.cells #[.int .i64 5] 24)) w.heap.size (n : Int) (a : Int) (b : Int) (.slice a0 es.length c0)) := T4.out.below (balloc (balloc (balloc (Below.refl _ _) _) _) _)
  obtain ⟨t0, t1, t2, t3⟩ := T5.out
  go_wp2_with fail
  have X5 : Hid _ := kept_alloc (x := .cells #[.int .i64 5] 24) (kept_alloc (x := .cells #[.int .i64 0] 3) (kept_alloc (x := .cells #[.pointer (some ⟨H, 0, none⟩)] 60) X4.out))
  have B5 : Hid (Below w4.heap.size w4 (((w4.alloc (.cells #[.pointer (some ⟨H, 0, none⟩)] 60)).alloc (.cells #[.int .i64 0] 3)).alloc (.cells #[.int .i64 5] 24))) := balloc (balloc (balloc (Below.refl _ _) _) _) _
  have J5 : Hid ((((w4.alloc (.cells #[.pointer (some ⟨H, 0, none⟩)] 60)).alloc (.cells #[.int .i64 0] 3)).alloc (.cells #[.int .i64 5] 24)).cell? ⟨w4.heap.size, 0, none⟩ = some (.pointer (some ⟨H, 0, none⟩))) := kept_alloc (kept_alloc (cell_new w4 _ _ 0 _ rfl))
  have N5 : Hid (Vb (((w4.alloc (.cells #[.pointer (some ⟨H, 0, none⟩)] 60)).alloc (.cells #[.int .i64 0] 3)).alloc (.cells #[.int .i64 5] 24)) (w4.heap.size + 1) (.int .i64 0) 3) := ⟨by rw [Below.heap_alloc _ _ _ (by simp)]; exact new_at _ _ (by simp)⟩
  have E5 : Hid (Vb (((w4.alloc (.cells #[.pointer (some ⟨H, 0, none⟩)] 60)).alloc (.cells #[.int .i64 0] 3)).alloc (.cells #[.int .i64 5] 24)) (w4.heap.size + 1 + 1) (.int .i64 5) 24) := ⟨new_at _ _ (by simp)⟩
  generalize (((w4.alloc (.cells #[.pointer (some ⟨H, 0, none⟩)] 60)).alloc (.cells #[.int .i64 0] 3)).alloc (.cells #[.int .i64 5] 24)) = w5 at *
  have z34 := B4.out.size
  have U5 : Hid (Un.Ur w5 w3.heap.size n id) := U4.out.frame (B5.out.block _ (U4.out.lt))
  have hg4 := U4.out.lt
  have lb3 := World.block_lt_of_cell? w3 ⟨w.heap.size + 1 + 1, 0, none⟩ T3.out.b
  simp only at lb3
  refine (take_neck n H w3.heap.size w4.heap.size (w.heap.size + 1) (w.heap.size + 1 + 1) w.heap.size (w4.heap.size + 1) (w4.heap.size + 1 + 1) a b _ es w3 w5 (HV.out.below B3.out) HG.out (bthen B4.out B5.out) X5.out U5.out N5.out E5.out ⟨J5.out, T5.out.a, T5.out.b, T5.out.g1⟩ (by omega) ⟨by omega, by omega, by omega, by omega⟩ ⟨by omega, by omega, by omega⟩ (by omega) (by omega) (by omega) ha hb HAB.out).mono ?_
  rintro e w6 ⟨rfl, n6, e6, z6⟩
  have Z6 : Hid (Below w.heap.size w w6) := bthen B3.out z6
  obtain ⟨n0, n1⟩ := n6.cell
  obtain ⟨e0, e1⟩ := e6.cell
  clear z6 n6 e6 t0 t1 t2 t3
  go_wp2_with fail
  go_quiet (fail)
  go_wp2_with fail
  go_ret2
  exact ⟨rfl, bdrewN Z6.out nq⟩
end Go.Proofs.Ytdgihpegdcoilaa
