/-
  The law fellkeep.MapsBack, walked.
-/
import Derived.Test.YteediekpljjbpaaRd
import Derived.Test.YteediekpljjbpaaPE
namespace Go.Proofs.Yteediekpljjbpaa.MBack
open Go.RowKit
open Gm Pm

theorem two_new (w : World) (x y : Int) : SlI (w.alloc (.cells #[.int .i64 x, .int .i64 y] 3)) (.slice (some ⟨w.heap.size, 0, none⟩) 2 2) [x, y] := by
  refine .row w.heap.size 0 2 rfl (fun i hi => ?_)
  rw [Nat.zero_add]
  rcases (show i = 0 ∨ i = 1 by simp at hi; omega) with rfl | rfl
  · exact cell_new w _ _ 0 _ rfl
  · exact cell_new w _ _ 1 _ rfl
theorem t09 : txt 2 [0, 9] = [35, 57, 10] := by decide
theorem c09 : gchk 2 1 [0, 9] = 0 := by decide

set_option maxRecDepth 100000 in
set_option maxHeartbeats 8000000 in
theorem walk (W H : Int) (v : Value) (cs : List Int) (w : World) (hv : SlI w v cs) (hlen : cs.length ≤ 9223372036854775807) :
    Calls Try.prog 6 #[.agg #[.int .i64 W, .int .i64 H, v]] w fun e w' => e = .returned (.bool true) ∧ Below w.heap.size w w' := by
  obtain ⟨a, c, rfl⟩ := hv.val
  have HV : Hid _ := hv
  clear hv
  have HP9 : Hid _ := fun v w hv => print_yes 2 1 v [0, 9] w hv c09
  rw [t09] at HP9
  go_enter Try.func6, Try.ntmps6
  go_wp2_with fail
  have P0 : Hid _ := box3_start w W H (.slice a cs.length c)
  have B0 : Hid (Below w.heap.size w (w.alloc (.cells #[.int .i64 W, .int .i64 H, .slice a cs.length c] 24))) := balloc (Below.refl _ _) _
  have hz0 : (w.alloc (.cells #[.int .i64 W, .int .i64 H, .slice a cs.length c] 24)).heap.size = w.heap.size + 1 := by simp
  generalize w.alloc (.cells #[.int .i64 W, .int .i64 H, .slice a cs.length c] 24) = W0 at *
  have S1 : Hid _ := two_new W0 0 9
  rw [hz0] at S1
  have B01 : Hid (Below W0.heap.size W0 (W0.alloc (.cells #[.int .i64 0, .int .i64 9] 3))) := balloc (Below.refl _ _) _
  generalize W0.alloc (.cells #[.int .i64 0, .int .i64 9] 3) = W1 at *
  have P1 : Hid _ := P0.out.below B01.out
  have B1 : Hid (Below w.heap.size w W1) := bthen B0.out B01.out
  clear B01 P0 B0 hz0
  refine (HP9.out _ W1 S1.out).mono ?_
  rintro e w2 ⟨rfl, b2⟩
  have P2 : Hid _ := P1.out.below b2
  have B2 : Hid (Below w.heap.size w w2) := bthen B1.out b2
  clear b2 P1 B1 S1
  obtain ⟨p0, p1, p2⟩ := P2.out
  go_wp2_with fail
  clear p0 p1 p2
  by_cases hc : gchk W H cs = 0
  · have HC : Hid _ := hc
    have HR : Hid _ := fun w => read_yes W H cs w (gchk_zero hc)
    clear hc
    refine (print_yes W H _ cs w2 (HV.out.below B2.out) HC.out).mono ?_
    rintro e w3 ⟨rfl, b3⟩
    have P3 : Hid _ := P2.out.below b3
    have B3 : Hid (Below w.heap.size w w3) := bthen B2.out b3
    clear b3 P2 B2
    go_wp2_with fail
    refine (HR.out w3).mono ?_
    rintro e w4 ⟨u, rfl, i4, b4⟩
    obtain ⟨au, cu, rfl⟩ := i4.sl.val
    have I4 : Hid _ := i4.sl
    have P4 : Hid _ := P3.out.below b4
    have B4 : Hid (Below w.heap.size w w4) := bthen B3.out b4
    clear b4 i4 P3 B3
    obtain ⟨p0, p1, p2⟩ := P4.out.below (balloc (Below.refl _ _) (.cells #[.int .i64 W, .int .i64 H, .slice au cs.length cu] 24))
    go_wp2_with fail
    have B5 : Hid (Below w4.heap.size w4 (w4.alloc (.cells #[.int .i64 W, .int .i64 H, .slice au cs.length cu] 24))) := balloc (Below.refl _ _) _
    clear p0 p1 p2
    generalize w4.alloc (.cells #[.int .i64 W, .int .i64 H, .slice au cs.length cu] 24) = W5 at *
    refine (sameGrid_yes W H _ _ cs W5 ((HV.out.below B4.out).below B5.out) (I4.out.below B5.out) hlen).mono ?_
    rintro e w6 ⟨rfl, b6⟩
    have B6 : Hid (Below w.heap.size w w6) := bthen (bthen B4.out B5.out) b6
    clear b6
    go_wp2_with fail
    go_ret
    exact ⟨rfl, B6.out⟩
  · have hz : (gchk W H cs != 0) = true := by simp [hc]
    have HC : Hid _ := hc
    clear hc
    refine (print_bad W H _ cs w2 (HV.out.below B2.out) hlen HC.out).mono ?_
    rintro e w3 ⟨rfl, b3⟩
    have P3 : Hid _ := P2.out.below b3
    have B3 : Hid (Below w.heap.size w w3) := bthen B2.out b3
    clear b3 P2 B2
    obtain ⟨p0, p1, p2⟩ := P3.out
    go_wp2_with fail
    refine (gcheck_any W H _ cs w3 (HV.out.below B3.out) hlen).mono ?_
    rintro e w4 ⟨rfl, b4⟩
    have B4 : Hid (Below w.heap.size w w4) := bthen B3.out b4
    clear b4
    go_wp2_with fail
    go_ret
    exact ⟨rfl, B4.out⟩
end Go.Proofs.Yteediekpljjbpaa.MBack
