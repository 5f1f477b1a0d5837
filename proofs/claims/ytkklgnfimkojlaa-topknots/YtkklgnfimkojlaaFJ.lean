/-
  Contracts: floyd's All, Wide, Reach.
-/
import Derived.Test.YtkklgnfimkojlaaFI
namespace Go.Proofs.Ytkklgnfimkojlaa
open Go.RowKit
open Nm Wm Dm Bm Fm Fl
attribute [local go_sem ↓] Go.wp_at_zero Go.wp_at_succ

set_option maxRecDepth 100000 in
set_option maxHeartbeats 8000000 in
theorem freach_net (n : Int) (v : Value) (es : List E) (w : World) (hv : SlE w v es) (hlen : es.length ≤ 9223372036854775807) (hc : nck n es ≠ 0) :
    Calls Try.prog 21 #[.agg #[.int .i64 n, v]] w fun e w' => e = .returned (.tuple #[.slice none 0 0, .int .i64 (nck n es)]) ∧ Below w.heap.size w w' := by
  obtain ⟨a0, c0, rfl⟩ := hv.val
  have HV : Hid _ := hv
  have HC : Hid _ := hc
  clear hv hc
  go_enter Try.func21, Try.ntmps21
  go_wp2_with fail
  have B0 : Hid (Below w.heap.size w (w.alloc (.cells #[.int .i64 n, .slice a0 es.length c0] 24))) := balloc (Below.refl _ _) _
  generalize w.alloc (.cells #[.int .i64 n, .slice a0 es.length c0] 24) = W0 at *
  refine (between_net_or n _ es W0 (HV.out.below B0.out) hlen HC.out).mono ?_
  rintro e w1 ⟨rfl, b1⟩
  have B1 : Hid (Below w.heap.size w w1) := bthen B0.out b1
  clear b1 B0
  go_wp2_with fail
  go_ret2
  exact ⟨rfl, B1.out⟩
set_option maxRecDepth 100000 in
set_option maxHeartbeats 8000000 in
theorem freach_yes (N : Nat) (v : Value) (es : List E) (w : World) (hv : SlE w v es) (hb : Rnt N es) :
    Calls Try.prog 21 #[.agg #[.int .i64 N, v]] w fun e w' => ∃ R Gs, e = .returned (.tuple #[.slice (some ⟨R, 0, none⟩) N N, .int .i64 0]) ∧ Tb w' R N N Gs (fwb (fun _ => true) es N) ∧ Below w.heap.size w w' := by
  obtain ⟨a0, c0, rfl⟩ := hv.val
  have HV : Hid _ := hv
  have HB : Hid _ := hb
  clear hv hb
  go_enter Try.func21, Try.ntmps21
  go_wp2_with fail
  have B0 : Hid (Below w.heap.size w (w.alloc (.cells #[.int .i64 N, .slice a0 es.length c0] 24))) := balloc (Below.refl _ _) _
  generalize w.alloc (.cells #[.int .i64 N, .slice a0 es.length c0] 24) = W0 at *
  refine (between_or N _ es W0 (HV.out.below B0.out) HB.out).mono ?_
  rintro e w1 ⟨R, Gs, rfl, t1, b1⟩
  have T1 : Hid _ := t1
  have B1 : Hid (Below w.heap.size w w1) := bthen B0.out b1
  clear b1 B0 t1
  go_wp2_with fail
  go_ret2
  exact ⟨_, _, rfl, T1.out.congr (fun i j hi hj => allf_or (edge := fun _ => true) hi hj), B1.out⟩
end Go.Proofs.Ytkklgnfimkojlaa
