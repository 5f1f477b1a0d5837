/-
  Contract: Read.
-/
import Derived.Test.YteediekpljjbpabPr
namespace Go.Proofs.Yteediekpljjbpab
open Go.RowKit
open Gm Pm

/-- No ground has this text. -/
def noTxt (l : List UInt8) : Prop := ∀ (W H : Int) (cs : List Int), Gd W H cs → l ≠ txt W cs

theorem guess_list (l : List UInt8) (w : World) (hs : l.length ≤ 72) :
    Calls Try.prog 13 #[.string ⟨l.toArray⟩] w fun e w' => ∃ v, e = .returned (.agg #[.int .i64 (Lib.indexByte l 10), .int .i64 (nls l), v]) ∧ Is w' w.heap.size v (gcs l) ∧ Below w.heap.size w w' :=
  guess_any ⟨l.toArray⟩ w hs

set_option maxRecDepth 100000 in
set_option maxHeartbeats 8000000 in
theorem read_yes (W H : Int) (cs : List Int) (w : World) (hg : Gd W H cs) :
    Calls Try.prog 5 #[.string ⟨(txt W cs).toArray⟩] w fun e w' => ∃ v, e = .returned (.tuple #[.agg #[.int .i64 W, .int .i64 H, v], .int .i64 0]) ∧ Is w' w.heap.size v cs ∧ Below w.heap.size w w' := by
  have hl := len_txt hg
  have HG : Hid _ := hg
  have HGU : Hid _ := fun w => guess_list (txt W cs) w hl
  rw [ix_txt hg, nls_txt hg, gcs_txt hg] at HGU
  have HPR : Hid _ := fun v w hv => print_yes W H v cs w hv (gd_gchk hg)
  clear hg
  generalize txt W cs = l at *
  go_enter Try.func5, Try.ntmps5
  go_wp2_with fail
  have X0 : Hid _ := bx_new w (.int .i64 0) (.int .i64 0) (.slice none 0 0)
  have B0 : Hid (Below w.heap.size w (w.alloc (.cells #[.int .i64 0, .int .i64 0, .slice none 0 0] 24))) := balloc (Below.refl _ _) _
  have hz0 : (w.alloc (.cells #[.int .i64 0, .int .i64 0, .slice none 0 0] 24)).heap.size = w.heap.size + 1 := by simp
  generalize w.alloc (.cells #[.int .i64 0, .int .i64 0, .slice none 0 0] 24) = W0 at *
  refine (HGU.out W0).mono ?_
  rintro e w1 ⟨v, rfl, i1, b1⟩
  obtain ⟨av, cv, rfl⟩ := i1.sl.val
  have I1 : Hid _ := i1
  have X1 : Hid _ := X0.out.below b1
  have B1 : Hid (Below w.heap.size w w1) := bthen B0.out b1
  have HZ1 : Hid (w.heap.size + 1 ≤ w1.heap.size) := by have := b1.size; unfold Hid; omega
  clear i1 b1 X0 B0
  go_wp2_with fail
  have Y2 : Hid _ := bx_new w1 (.int .i64 W) (.int .i64 H) (.slice av cs.length cv)
  have X2 : Hid _ := X1.out.below (balloc (Below.refl _ _) (.cells #[.int .i64 W, .int .i64 H, .slice av cs.length cv] 24))
  have I2 : Hid _ := I1.out.below (balloc (Below.refl _ _) (.cells #[.int .i64 W, .int .i64 H, .slice av cs.length cv] 24))
  have B2 : Hid (Below w.heap.size w (w1.alloc (.cells #[.int .i64 W, .int .i64 H, .slice av cs.length cv] 24))) := balloc B1.out _
  generalize w1.alloc (.cells #[.int .i64 W, .int .i64 H, .slice av cs.length cv] 24) = W2 at *
  refine (HPR.out _ W2 I2.out.sl).mono ?_
  rintro e w3 ⟨rfl, b3⟩
  have Y3 : Hid _ := Y2.out.below b3
  have X3 : Hid _ := X2.out.below b3
  have I3 : Hid _ := I2.out.below b3
  have B3 : Hid (Below w.heap.size w w3) := bthen B2.out b3
  clear b3
  obtain ⟨c0, c1, c2⟩ := Y3.out.cell
  obtain ⟨g0, g1, g2⟩ := X3.out.cell
  obtain ⟨f0, f1, f2⟩ := X3.out.frozen
  go_wp2_with fail
  refine bodyPost_ret (v := .tuple #[.agg #[.int .i64 W, .int .i64 H, .slice av cs.length cv], .int .i64 0]) ?_ rfl ?_
  · simp [results, Try.results5, go_sem, *]
  · exact ⟨_, rfl, (((I3.out.other (by omega)).other (by omega)).other (by omega)).mono (by omega), Below.setCell (Below.setCell (Below.setCell B3.out (by simp) _) (by simp) _) (by simp) _⟩

set_option maxRecDepth 100000 in
set_option maxHeartbeats 8000000 in
theorem read_no (l : List UInt8) (w : World) (hn : noTxt l) :
    Calls Try.prog 5 #[.string ⟨l.toArray⟩] w fun e w' => e = .returned (.tuple #[.agg #[.int .i64 0, .int .i64 0, .slice none 0 0], .int .i64 9]) ∧ Below w.heap.size w w' := by
  by_cases hl : l.length ≤ 72
  · have HGU : Hid _ := fun w => guess_list l w hl
    have HN : Hid _ := hn
    have hgl := gcs_length l
    clear hn
    obtain ⟨W, hW⟩ : ∃ W, Lib.indexByte l 10 = W := ⟨_, rfl⟩
    obtain ⟨H, hH⟩ : ∃ H, (nls l : Int) = H := ⟨_, rfl⟩
    rw [hW, hH] at HGU
    clear hW hH
    generalize gcs l = cs at *
    go_enter Try.func5, Try.ntmps5
    go_wp2_with fail
    have X0 : Hid _ := bx_new w (.int .i64 0) (.int .i64 0) (.slice none 0 0)
    have B0 : Hid (Below w.heap.size w (w.alloc (.cells #[.int .i64 0, .int .i64 0, .slice none 0 0] 24))) := balloc (Below.refl _ _) _
    generalize w.alloc (.cells #[.int .i64 0, .int .i64 0, .slice none 0 0] 24) = W0 at *
    refine (HGU.out W0).mono ?_
    rintro e w1 ⟨v, rfl, i1, b1⟩
    obtain ⟨av, cv, rfl⟩ := i1.sl.val
    have I1 : Hid _ := i1
    have X1 : Hid _ := X0.out.below b1
    have B1 : Hid (Below w.heap.size w w1) := bthen B0.out b1
    clear i1 b1 X0 B0
    go_wp2_with fail
    have X2 : Hid _ := X1.out.below (balloc (Below.refl _ _) (.cells #[.int .i64 W, .int .i64 H, .slice av cs.length cv] 24))
    have I2 : Hid _ := I1.out.below (balloc (Below.refl _ _) (.cells #[.int .i64 W, .int .i64 H, .slice av cs.length cv] 24))
    have B2 : Hid (Below w.heap.size w (w1.alloc (.cells #[.int .i64 W, .int .i64 H, .slice av cs.length cv] 24))) := balloc B1.out _
    generalize w1.alloc (.cells #[.int .i64 W, .int .i64 H, .slice av cs.length cv] 24) = W2 at *
    by_cases hc : gchk W H cs = 0
    · have hne : (txt W cs == l) = false := by
        have := HN.out W H cs (gchk_zero hc)
        simp [Ne.symm this]
      refine (print_yes W H _ cs W2 I2.out.sl hc).mono ?_
      rintro e w3 ⟨rfl, b3⟩
      have X3 : Hid _ := X2.out.below b3
      have B3 : Hid (Below w.heap.size w w3) := bthen B2.out b3
      clear b3 hc
      obtain ⟨g0, g1, g2⟩ := X3.out.cell
      obtain ⟨f0, f1, f2⟩ := X3.out.frozen
      go_wp2_with fail
      refine bodyPost_ret (v := .tuple #[.agg #[.int .i64 0, .int .i64 0, .slice none 0 0], .int .i64 9]) ?_ rfl ?_
      · simp [results, Try.results5, go_sem, *]
      · exact ⟨rfl, Below.setCell (Below.setCell (Below.setCell B3.out (by simp) _) (by simp) _) (by simp) _⟩
    · have hz : (gchk W H cs != 0) = true := by simp [hc]
      refine (print_bad W H _ cs W2 I2.out.sl (by omega) hc).mono ?_
      rintro e w3 ⟨rfl, b3⟩
      have X3 : Hid _ := X2.out.below b3
      have B3 : Hid (Below w.heap.size w w3) := bthen B2.out b3
      clear b3 hc
      obtain ⟨g0, g1, g2⟩ := X3.out.cell
      obtain ⟨f0, f1, f2⟩ := X3.out.frozen
      go_wp2_with fail
      refine bodyPost_ret (v := .tuple #[.agg #[.int .i64 0, .int .i64 0, .slice none 0 0], .int .i64 9]) ?_ rfl ?_
      · simp [results, Try.results5, go_sem, *]
      · exact ⟨rfl, Below.setCell (Below.setCell (Below.setCell B3.out (by simp) _) (by simp) _) (by simp) _⟩
  · have hgt : (72 : Int) < (l.length : Int) := by omega
    clear hl hn
    go_enter Try.func5, Try.ntmps5
    go_wp2_with fail
    refine bodyPost_ret (v := .tuple #[.agg #[.int .i64 0, .int .i64 0, .slice none 0 0], .int .i64 9]) ?_ rfl ?_
    · simp [results, Try.results5, go_sem, *]
    · exact ⟨rfl, balloc (Below.refl _ _) _⟩
end Go.Proofs.Yteediekpljjbpab
