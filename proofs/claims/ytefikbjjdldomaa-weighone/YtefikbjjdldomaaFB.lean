/-
  Contracts: the document's SameWay and SameFound of what is the same.
-/
import Derived.Test.YtefikbjjdldomaaIE
namespace Go.Proofs.Ytefikbjjdldomaa
open Go.RowKit
open Nm Wm Dm

set_option maxRecDepth 100000 in
set_option maxHeartbeats 8000000 in
theorem sameway_yes (c : Int) (v u : Value) (p : List Int) (w : World) (hv : SlI w v p) (hu : SlI w u p) (hlen : p.length ≤ 9223372036854775807) :
    Calls Try.prog 38 #[.agg #[v, .int .i64 c], .agg #[u, .int .i64 c]] w fun e w' => e = .returned (.bool true) ∧ Below w.heap.size w w' := by
  obtain ⟨a0, c0, rfl⟩ := hv.val
  obtain ⟨a1, c1, rfl⟩ := hu.val
  have HV : Hid _ := hv
  have HU : Hid _ := hu
  clear hv hu
  go_enter Try.func38, Try.ntmps38
  go_wp2_with fail
  have B0 : Hid (Below w.heap.size w ((w.alloc (.cells #[.slice a0 p.length c0, .int .i64 c] 27)).alloc (.cells #[.slice a1 p.length c1, .int .i64 c] 27))) := balloc (balloc (Below.refl _ _) _) _
  generalize (w.alloc (.cells #[.slice a0 p.length c0, .int .i64 c] 27)).alloc (.cells #[.slice a1 p.length c1, .int .i64 c] 27) = W0 at *
  refine (iequal_yes _ _ p W0 (HV.out.below B0.out) (HU.out.below B0.out) hlen).mono ?_
  rintro e w1 ⟨rfl, b1⟩
  go_wp2_with fail
  go_ret
  exact ⟨rfl, bthen B0.out b1⟩
set_option maxRecDepth 100000 in
set_option maxHeartbeats 8000000 in
theorem samefound_yes (c : Int) (v u x y : Value) (p o : List Int) (w : World) (hv : SlI w v p) (hu : SlI w u p) (hx : SlI w x o) (hy : SlI w y o) (hlen : p.length ≤ 9223372036854775807) (hol : o.length ≤ 9223372036854775807) :
    Calls Try.prog 14 #[.agg #[v, .int .i64 c, x], .agg #[u, .int .i64 c, y]] w fun e w' => e = .returned (.bool true) ∧ Below w.heap.size w w' := by
  obtain ⟨a0, c0, rfl⟩ := hv.val
  obtain ⟨a1, c1, rfl⟩ := hu.val
  obtain ⟨a2, c2, rfl⟩ := hx.val
  obtain ⟨a3, c3, rfl⟩ := hy.val
  have HV : Hid _ := hv
  have HU : Hid _ := hu
  have HX : Hid _ := hx
  have HY : Hid _ := hy
  clear hv hu hx hy
  go_enter Try.func14, Try.ntmps14
  go_wp2_with fail
  have C2 : Hid _ := (cell_new w #[.slice a0 p.length c0, .int .i64 c, .slice a2 o.length c2] 29 2 _ rfl)
  have C2 : Hid _ := kept (balloc (Below.refl _ _) (.cells #[.slice a1 p.length c1, .int .i64 c, .slice a3 o.length c3] 29)) C2.out
  have C3 : Hid _ := cell_new (w.alloc (.cells #[.slice a0 p.length c0, .int .i64 c, .slice a2 o.length c2] 29)) #[.slice a1 p.length c1, .int .i64 c, .slice a3 o.length c3] 29 2 _ rfl
  have hz : (w.alloc (.cells #[.slice a0 p.length c0, .int .i64 c, .slice a2 o.length c2] 29)).heap.size = w.heap.size + 1 := by simp
  rw [hz] at C3
  have B0 : Hid (Below w.heap.size w ((w.alloc (.cells #[.slice a0 p.length c0, .int .i64 c, .slice a2 o.length c2] 29)).alloc (.cells #[.slice a1 p.length c1, .int .i64 c, .slice a3 o.length c3] 29))) := balloc (balloc (Below.refl _ _) _) _
  clear hz
  generalize (w.alloc (.cells #[.slice a0 p.length c0, .int .i64 c, .slice a2 o.length c2] 29)).alloc (.cells #[.slice a1 p.length c1, .int .i64 c, .slice a3 o.length c3] 29) = W0 at *
  refine (sameway_yes c _ _ p W0 (HV.out.below B0.out) (HU.out.below B0.out) hlen).mono ?_
  rintro e w1 ⟨rfl, b1⟩
  have B1 : Hid (Below w.heap.size w w1) := bthen B0.out b1
  have c2' := kept b1 C2.out
  have c3' := kept b1 C3.out
  clear b1 C2 C3
  go_wp2_with fail
  refine (iequal_yes _ _ o w1 (HX.out.below B1.out) (HY.out.below B1.out) hol).mono ?_
  rintro e w2 ⟨rfl, b2⟩
  go_wp2_with fail
  go_ret
  exact ⟨rfl, bthen B1.out b2⟩
end Go.Proofs.Ytefikbjjdldomaa
