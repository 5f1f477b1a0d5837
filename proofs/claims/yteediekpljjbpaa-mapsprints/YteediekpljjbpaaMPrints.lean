/-
  The law felllaw.MapsPrints, walked.
-/
import Derived.Test.YteediekpljjbpaaPB
import Derived.Test.YteediekpljjbpaaDB
namespace Go.Proofs.Yteediekpljjbpaa.MPrints
open Go.RowKit
open Gm Pm

set_option maxRecDepth 100000 in
set_option maxHeartbeats 8000000 in
theorem walk (W H : Int) (v : Value) (cs : List Int) (w : World) (hv : SlI w v cs) (hlen : cs.length ≤ 9223372036854775807) :
    Calls Try.prog 3 #[.agg #[.int .i64 W, .int .i64 H, v]] w fun e w' => e = .returned (.bool true) ∧ Below w.heap.size w w' := by
  obtain ⟨a, c, rfl⟩ := hv.val
  have HV : Hid _ := hv
  clear hv
  by_cases hc : gchk W H cs = 0
  · have HC : Hid _ := hc
    clear hc
    go_enter Try.func3, Try.ntmps3
    go_wp2_with fail
    have P0 : Hid _ := box3_start w W H (.slice a cs.length c)
    have B0 : Hid (Below w.heap.size w (w.alloc (.cells #[.int .i64 W, .int .i64 H, .slice a cs.length c] 24))) := balloc (Below.refl _ _) _
    generalize w.alloc (.cells #[.int .i64 W, .int .i64 H, .slice a cs.length c] 24) = W0 at *
    refine (print_yes W H _ cs W0 (HV.out.below B0.out) HC.out).mono ?_
    rintro e w1 ⟨rfl, b1⟩
    have P1 : Hid _ := P0.out.below b1
    have B1 : Hid (Below w.heap.size w w1) := bthen B0.out b1
    clear b1
    obtain ⟨p0, p1, p2⟩ := P1.out
    go_wp2_with fail
    refine (rgrid_any W H _ cs w1 (HV.out.below B1.out) hlen).mono ?_
    rintro e w2 ⟨rfl, b2⟩
    have P2 : Hid _ := P1.out.below b2
    have B2 : Hid (Below w.heap.size w w2) := bthen B1.out b2
    clear b2 p0 p1 p2
    obtain ⟨p0, p1, p2⟩ := P2.out
    rw [HC.out]
    go_wp2_with fail
    refine (map_any W H _ cs w2 (HV.out.below B2.out) (gchk_zero HC.out)).mono ?_
    rintro e w3 ⟨rfl, b3⟩
    have B3 : Hid (Below w.heap.size w w3) := bthen B2.out b3
    clear b3
    go_wp2_with fail
    go_ret
    exact ⟨rfl, B3.out⟩
  · have hz : (gchk W H cs != 0) = true := by simp [hc]
    have HC : Hid _ := hc
    clear hc
    go_enter Try.func3, Try.ntmps3
    go_wp2_with fail
    have P0 : Hid _ := box3_start w W H (.slice a cs.length c)
    have B0 : Hid (Below w.heap.size w (w.alloc (.cells #[.int .i64 W, .int .i64 H, .slice a cs.length c] 24))) := balloc (Below.refl _ _) _
    generalize w.alloc (.cells #[.int .i64 W, .int .i64 H, .slice a cs.length c] 24) = W0 at *
    refine (print_bad W H _ cs W0 (HV.out.below B0.out) hlen HC.out).mono ?_
    rintro e w1 ⟨rfl, b1⟩
    have P1 : Hid _ := P0.out.below b1
    have B1 : Hid (Below w.heap.size w w1) := bthen B0.out b1
    clear b1
    obtain ⟨p0, p1, p2⟩ := P1.out
    go_wp2_with fail
    refine (rgrid_any W H _ cs w1 (HV.out.below B1.out) hlen).mono ?_
    rintro e w2 ⟨rfl, b2⟩
    have B2 : Hid (Below w.heap.size w w2) := bthen B1.out b2
    clear b2
    go_wp2_with fail
    go_ret
    exact ⟨rfl, B2.out⟩
end Go.Proofs.Yteediekpljjbpaa.MPrints
