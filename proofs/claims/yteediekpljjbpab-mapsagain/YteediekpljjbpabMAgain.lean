/-
  The law fellkeep.MapsAgain, walked.
-/
import Derived.Test.YteediekpljjbpabRd
import Derived.Test.YteediekpljjbpabPE
namespace Go.Proofs.Yteediekpljjbpab.MAgain
open Go.RowKit
open Gm Pm

theorem two_new (w : World) (x y : Int) : SlI (w.alloc (.cells #[.int .i64 x, .int .i64 y] 3)) (.slice (some ⟨w.heap.size, 0, none⟩) 2 2) [x, y] := by
  refine .row w.heap.size 0 2 rfl (fun i hi => ?_)
  rw [Nat.zero_add]
  rcases (show i = 0 ∨ i = 1 by simp at hi; omega) with rfl | rfl
  · exact cell_new w _ _ 0 _ rfl
  · exact cell_new w _ _ 1 _ rfl
theorem t10 : txt 1 [1, 0] = [49, 10, 35, 10] := by decide
theorem g10 : Gd 1 2 [1, 0] := gchk_zero (by decide)

set_option maxRecDepth 100000 in
set_option maxHeartbeats 8000000 in
theorem walk (l : List UInt8) (w : World) (hl : l.length ≤ 9223372036854775807) :
    Calls Try.prog 3 #[.string ⟨l.toArray⟩] w fun e w' => e = .returned (.bool true) ∧ Below w.heap.size w w' := by
  have HR0 : Hid _ := fun w => read_yes 1 2 [1, 0] w g10
  rw [t10] at HR0
  go_enter Try.func3, Try.ntmps3
  go_wp2_with fail
  refine (HR0.out w).mono ?_
  rintro e w1 ⟨v, rfl, i1, b1⟩
  obtain ⟨av, cv, rfl⟩ := i1.sl.val
  have I1 : Hid _ := i1.sl
  have B1 : Hid (Below w.heap.size w w1) := b1
  clear i1 b1
  go_wp2_with fail
  obtain ⟨W2, hW2⟩ : ∃ W2, W2 = w1.alloc (.cells #[.int .i64 1, .int .i64 2, .slice av 2 cv] 24) := ⟨_, rfl⟩
  have B2 : Hid (Below w1.heap.size w1 W2) := by rw [hW2]; exact balloc (Below.refl _ _) _
  have hz2 : w1.heap.size + 1 = W2.heap.size := by rw [hW2]; simp
  have S3 : Hid _ := two_new W2 1 0
  rw [← hz2] at S3
  have B3 : Hid (Below W2.heap.size W2 (W2.alloc (.cells #[.int .i64 1, .int .i64 0] 3))) := balloc (Below.refl _ _) _
  rw [← hW2]
  clear hW2 hz2
  generalize W2.alloc (.cells #[.int .i64 1, .int .i64 0] 3) = W3 at *
  refine (sameGrid_yes 1 2 _ _ [1, 0] W3 ((I1.out.below B2.out).below B3.out) S3.out (by simp)).mono ?_
  rintro e w4 ⟨rfl, b4⟩
  have B4 : Hid (Below w.heap.size w w4) := bthen (bthen (bthen B1.out B2.out) B3.out) b4
  clear b4 B1 B2 B3 S3 I1
  go_wp2_with fail
  by_cases hy : ∃ W H cs, Gd W H cs ∧ l = txt W cs
  · obtain ⟨W, H, cs, hg, rfl⟩ := hy
    have HG : Hid _ := hg
    have hle := hg.le
    clear hg
    refine (read_yes W H cs w4 HG.out).mono ?_
    rintro e w5 ⟨v, rfl, i5, b5⟩
    obtain ⟨a5, c5, rfl⟩ := i5.sl.val
    have I5 : Hid _ := i5.sl
    have B5 : Hid (Below w.heap.size w w5) := bthen B4.out b5
    clear i5 b5
    go_wp2_with fail
    have B6 : Hid (Below w5.heap.size w5 (w5.alloc (.cells #[.int .i64 W, .int .i64 H, .slice a5 cs.length c5] 24))) := balloc (Below.refl _ _) _
    generalize w5.alloc (.cells #[.int .i64 W, .int .i64 H, .slice a5 cs.length c5] 24) = W6 at *
    refine (print_yes W H _ cs W6 (I5.out.below B6.out) (gd_gchk HG.out)).mono ?_
    rintro e w7 ⟨rfl, b7⟩
    have B7 : Hid (Below w.heap.size w w7) := bthen (bthen B5.out B6.out) b7
    clear b7
    go_wp2_with fail
    go_ret
    exact ⟨rfl, B7.out⟩
  · have hn : noTxt l := fun W H cs hg e => hy ⟨W, H, cs, hg, e⟩
    clear hy
    refine (read_no l w4 hn).mono ?_
    rintro e w5 ⟨rfl, b5⟩
    have B5 : Hid (Below w.heap.size w w5) := bthen B4.out b5
    clear b5
    go_wp2_with fail
    have B6 : Hid (Below w5.heap.size w5 (w5.alloc (.cells #[.int .i64 0, .int .i64 0, .slice none 0 0] 24))) := balloc (Below.refl _ _) _
    generalize w5.alloc (.cells #[.int .i64 0, .int .i64 0, .slice none 0 0] 24) = W6 at *
    refine (sameGrid_yes 0 0 _ _ [] W6 (.no _ _ rfl rfl) (.no _ _ rfl rfl) (by simp)).mono ?_
    rintro e w7 ⟨rfl, b7⟩
    have B7 : Hid (Below w.heap.size w w7) := bthen (bthen B5.out B6.out) b7
    clear b7
    go_wp2_with fail
    go_ret
    exact ⟨rfl, B7.out⟩
end Go.Proofs.Yteediekpljjbpab.MAgain
