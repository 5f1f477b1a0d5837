/-
  The law felllaw.WalkCosts, walked.
-/
import Derived.Test.YtfgdcglgloahfaaWB
import Derived.Test.YtfgdcglgloahfaaWD
namespace Go.Proofs.Ytfgdcglgloahfaa.WCosts
open Go.RowKit
open Nm Wm

set_option maxRecDepth 100000 in
set_option maxHeartbeats 8000000 in
theorem walk (n : Int) (v u : Value) (es : List E) (p : List Int) (w : World) (hv : SlE w v es) (hu : SlI w u p) (hlen : es.length ≤ 9223372036854775807) (hl : p.length ≤ 9223372036854775807) :
    Calls Try.prog 3 #[.agg #[.int .i64 n, v], u] w fun e w' => e = .returned (.bool true) ∧ Below w.heap.size w w' := by
  obtain ⟨a0, c0, rfl⟩ := hv.val
  obtain ⟨a1, c1, rfl⟩ := hu.val
  have HV : Hid _ := hv
  have HU : Hid _ := hu
  have HC : Hid (∀ w, SlE w (.slice a0 es.length c0) es → SlI w (.slice a1 p.length c1) p → _) := fun w hv hu => cost_any n _ _ es p w hv hu hlen hl
  have HD : Hid (∀ w, SlE w (.slice a0 es.length c0) es → SlI w (.slice a1 p.length c1) p → _) := fun w hv hu => rwalk_any n _ _ es p w hv hu hlen hl
  clear hv hu
  generalize (wcode n es p).1 = s at *
  generalize (wcode n es p).2 = c at *
  go_enter Try.func3, Try.ntmps3
  go_wp2_with fail
  have P0 : Hid _ := box2_new w n (.slice a0 es.length c0) 24
  have B0 : Hid (Below w.heap.size w (w.alloc (.cells #[.int .i64 n, .slice a0 es.length c0] 24))) := balloc (Below.refl _ _) _
  generalize w.alloc (.cells #[.int .i64 n, .slice a0 es.length c0] 24) = W0 at *
  refine (HC.out W0 (HV.out.below B0.out) (HU.out.below B0.out)).mono ?_
  rintro e w1 ⟨rfl, b1⟩
  obtain ⟨p0, p1⟩ := P0.out.below b1
  have B1 : Hid (Below w.heap.size w w1) := bthen B0.out b1
  clear b1
  go_wp2_with fail
  refine (HD.out w1 (HV.out.below B1.out) (HU.out.below B1.out)).mono ?_
  rintro e w2 ⟨rfl, b2⟩
  go_wp2_with fail
  go_ret
  exact ⟨rfl, bthen B1.out b2⟩
end Go.Proofs.Ytfgdcglgloahfaa.WCosts
