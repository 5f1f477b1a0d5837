/-
  A struct's box.
-/
import Derived.Test.YteediekpljjbpaaDoorDC
namespace Go.Proofs.YteediekpljjbpaaDoor
open Go.RowKit
open Gm

/-- The ground's box. -/
structure Box3 (W : World) (B : Nat) (gw gh : Int) (v : Value) : Prop where
  g0 : W.cell? ⟨B, 0, none⟩ = some (.int .i64 gw)
  g1 : W.cell? ⟨B, 1, none⟩ = some (.int .i64 gh)
  g2 : W.cell? ⟨B, 2, none⟩ = some v
theorem Box3.below {W W' : World} {B : Nat} {gw gh : Int} {v : Value} (h : Box3 W B gw gh v) (hb : Below W.heap.size W W') : Box3 W' B gw gh v :=
  ⟨kept hb h.g0, kept hb h.g1, kept hb h.g2⟩
theorem box3_start (w : World) (gw gh : Int) (v : Value) : Box3 (w.alloc (.cells #[.int .i64 gw, .int .i64 gh, v] 24)) w.heap.size gw gh v :=
  ⟨cell_new w _ _ 0 _ rfl, cell_new w _ _ 1 _ rfl, cell_new w _ _ 2 _ rfl⟩

theorem box3_new (w : World) (a b : Int) (v : Value) (t : TypeId) : Box3 (w.alloc (.cells #[.int .i64 a, .int .i64 b, v] t)) w.heap.size a b v :=
  ⟨cell_new w _ _ 0 _ rfl, cell_new w _ _ 1 _ rfl, cell_new w _ _ 2 _ rfl⟩
end Go.Proofs.YteediekpljjbpaaDoor
