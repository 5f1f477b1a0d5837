/-
  Contract: the document's SameWay, of ways that are the same.
-/
import Derived.Test.YtahijfljpjgdlaaIE
import Derived.Test.YtahijfljpjgdlaaNA
namespace Go.Proofs.Ytahijfljpjgdlaa
open Go.RowKit
open Nm

set_option maxRecDepth 100000 in
set_option maxHeartbeats 4000000 in
theorem same_yes (u v : Value) (a : Int) (cs : List Int) (w : World) (hu : SlI w u cs) (hv : SlI w v cs) (hl : cs.length ≤ 9223372036854775807) :
    Calls Try.prog 16 #[.agg #[u, .int .i64 a], .agg #[v, .int .i64 a]] w fun e w' => e = .returned (.bool true) ∧ Below w.heap.size w w' := by
  obtain ⟨a0, c0, rfl⟩ := hu.val
  obtain ⟨a1, c1, rfl⟩ := hv.val
  have HU : Hid _ := hu
  have HV : Hid _ := hv
  have haa : (a == a) = true := by simp
  clear hu hv
  go_enter Try.func16, Try.ntmps16
  go_wp2_with fail
  have B0 : Hid (Below w.heap.size w ((w.alloc (.cells #[.slice a0 cs.length c0, .int .i64 a] 34)).alloc (.cells #[.slice a1 cs.length c1, .int .i64 a] 34))) := balloc (balloc (Below.refl _ _) _) _
  generalize (w.alloc (.cells #[.slice a0 cs.length c0, .int .i64 a] 34)).alloc (.cells #[.slice a1 cs.length c1, .int .i64 a] 34) = W0 at *
  refine (iequal_yes _ _ cs W0 (HU.out.below B0.out) (HV.out.below B0.out) hl).mono ?_
  rintro e w2 ⟨rfl, b2⟩
  go_wp2_with fail
  go_ret
  exact ⟨rfl, bthen B0.out b2⟩
end Go.Proofs.Ytahijfljpjgdlaa
