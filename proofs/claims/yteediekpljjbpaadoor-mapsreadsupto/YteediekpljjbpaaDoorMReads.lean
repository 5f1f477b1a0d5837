/-
  The law felllaw.MapsReads, walked, for texts of at most 1048576 bytes.
-/
import Derived.Test.YteediekpljjbpaaDoorRdM
import Derived.Test.YteediekpljjbpaaDoorPE
namespace Go.Proofs.YteediekpljjbpaaDoor.MReads
open Go.RowKit
open Gm Pm

theorem uniq {W H W' H' : Int} {cs cs' : List Int} (h : Gd W H cs) (h' : Gd W' H' cs') (e : txt W cs = txt W' cs') : W = W' ∧ H = H' ∧ cs = cs' := by
  refine ⟨?_, ?_, ?_⟩
  · rw [← ix_txt h, e, ix_txt h']
  · rw [← nls_txt h, e, nls_txt h']
  · rw [← gcs_txt h, e, gcs_txt h']

set_option maxRecDepth 100000 in
set_option maxHeartbeats 8000000 in
theorem walk_yes (W H : Int) (cs : List Int) (m : Int) (w : World) (hg : Gd W H cs) (hm : w.cell? ⟨1, 0, none⟩ = some (.int .i64 m)) :
    Calls Tryd.prog 3 #[.string ⟨(txt W cs).toArray⟩] w fun e w' => e = .returned (.bool true) ∧ Below w.heap.size w w' := by
  have HG : Hid _ := hg
  have HM : Hid _ := hm
  have hle := hg.le
  clear hg hm
  have HR : Hid _ := fun w => read_yes W H cs w HG.out
  have HRR : Hid (∀ w : World, w.cell? ⟨1, 0, none⟩ = some (.int .i64 m) → Calls Tryd.prog 6 #[.string ⟨(txt W cs).toArray⟩] w fun e w' => ∃ v, e = .returned (.tuple #[.agg #[.int .i64 W, .int .i64 H, v], .int .i64 0]) ∧ Is w' w.heap.size v cs ∧ Below w.heap.size w w') := fun w hm => by
    refine rread_any (txt W cs) m w (by have := len_txt HG.out; omega) hm _ ?_ ?_
    · intro W' H' cs' v w' hg' e hi hb
      obtain ⟨rfl, rfl, rfl⟩ := uniq HG.out hg' e
      exact ⟨v, rfl, hi, hb⟩
    · intro hn
      exact absurd rfl (hn W H cs HG.out)
  generalize txt W cs = l at *
  go_enter Tryd.func3, Tryd.ntmps3
  go_wp2_with fail
  refine (HR.out w).mono ?_
  rintro e w1 ⟨v, rfl, i1, b1⟩
  obtain ⟨a1, c1, rfl⟩ := i1.sl.val
  have I1 : Hid _ := i1.sl
  have B1 : Hid (Below w.heap.size w w1) := b1
  clear i1 b1
  go_wp2_with fail
  have P2 : Hid _ := box3_start w1 W H (.slice a1 cs.length c1)
  have I2 : Hid _ := I1.out.below (balloc (Below.refl _ _) (.cells #[.int .i64 W, .int .i64 H, .slice a1 cs.length c1] 24))
  have B2 : Hid (Below w.heap.size w (w1.alloc (.cells #[.int .i64 W, .int .i64 H, .slice a1 cs.length c1] 24))) := balloc B1.out _
  generalize w1.alloc (.cells #[.int .i64 W, .int .i64 H, .slice a1 cs.length c1] 24) = W2 at *
  clear I1 B1
  refine (HRR.out W2 (kept B2.out HM.out)).mono ?_
  rintro e w3 ⟨v, rfl, i3, b3⟩
  obtain ⟨a3, c3, rfl⟩ := i3.sl.val
  have I3 : Hid _ := i3.sl
  have J3 : Hid _ := I2.out.below b3
  have P3 : Hid _ := P2.out.below b3
  have B3 : Hid (Below w.heap.size w w3) := bthen B2.out b3
  clear i3 b3 P2 I2 B2
  obtain ⟨p0, p1, p2⟩ := P3.out.below (balloc (Below.refl _ _) (.cells #[.int .i64 W, .int .i64 H, .slice a3 cs.length c3] 24))
  go_wp2_with fail
  clear p0 p1 p2
  have I4 : Hid _ := I3.out.below (balloc (Below.refl _ _) (.cells #[.int .i64 W, .int .i64 H, .slice a3 cs.length c3] 24))
  have J4 : Hid _ := J3.out.below (balloc (Below.refl _ _) (.cells #[.int .i64 W, .int .i64 H, .slice a3 cs.length c3] 24))
  have B4 : Hid (Below w.heap.size w (w3.alloc (.cells #[.int .i64 W, .int .i64 H, .slice a3 cs.length c3] 24))) := balloc B3.out _
  generalize w3.alloc (.cells #[.int .i64 W, .int .i64 H, .slice a3 cs.length c3] 24) = W4 at *
  refine (sameGrid_yes W H _ _ cs W4 J4.out I4.out (by omega)).mono ?_
  rintro e w5 ⟨rfl, b5⟩
  have B5 : Hid (Below w.heap.size w w5) := bthen B4.out b5
  clear b5
  go_wp2_with fail
  go_ret
  exact ⟨rfl, B5.out⟩

set_option maxRecDepth 100000 in
set_option maxHeartbeats 8000000 in
theorem walk_no (l : List UInt8) (m : Int) (w : World) (hl : l.length ≤ 1048576) (hn : noTxt l) (hm : w.cell? ⟨1, 0, none⟩ = some (.int .i64 m)) :
    Calls Tryd.prog 3 #[.string ⟨l.toArray⟩] w fun e w' => e = .returned (.bool true) ∧ Below w.heap.size w w' := by
  have HM : Hid _ := hm
  have HR : Hid _ := fun w => read_no l w hn
  have HRR : Hid (∀ w : World, w.cell? ⟨1, 0, none⟩ = some (.int .i64 m) → Calls Tryd.prog 6 #[.string ⟨l.toArray⟩] w fun e w' => e = .returned (.tuple #[.agg #[.int .i64 0, .int .i64 0, .slice none 0 0], .int .i64 9]) ∧ Below w.heap.size w w') := fun w hm => by
    refine rread_any l m w hl hm _ ?_ ?_
    · intro W' H' cs' v w' hg' e _ _
      exact absurd e (hn W' H' cs' hg')
    · intro _ w' hb
      exact ⟨rfl, hb⟩
  clear hn hm
  go_enter Tryd.func3, Tryd.ntmps3
  go_wp2_with fail
  refine (HR.out w).mono ?_
  rintro e w1 ⟨rfl, b1⟩
  have B1 : Hid (Below w.heap.size w w1) := b1
  clear b1
  go_wp2_with fail
  have P2 : Hid _ := box3_start w1 0 0 (.slice none 0 0)
  have B2 : Hid (Below w.heap.size w (w1.alloc (.cells #[.int .i64 0, .int .i64 0, .slice none 0 0] 24))) := balloc B1.out _
  generalize w1.alloc (.cells #[.int .i64 0, .int .i64 0, .slice none 0 0] 24) = W2 at *
  clear B1
  refine (HRR.out W2 (kept B2.out HM.out)).mono ?_
  rintro e w3 ⟨rfl, b3⟩
  have P3 : Hid _ := P2.out.below b3
  have B3 : Hid (Below w.heap.size w w3) := bthen B2.out b3
  clear b3 P2 B2
  obtain ⟨p0, p1, p2⟩ := P3.out.below (balloc (Below.refl _ _) (.cells #[.int .i64 0, .int .i64 0, .slice none 0 0] 24))
  go_wp2_with fail
  clear p0 p1 p2
  have B4 : Hid (Below w.heap.size w (w3.alloc (.cells #[.int .i64 0, .int .i64 0, .slice none 0 0] 24))) := balloc B3.out _
  generalize w3.alloc (.cells #[.int .i64 0, .int .i64 0, .slice none 0 0] 24) = W4 at *
  refine (sameGrid_yes 0 0 _ _ [] W4 (.no _ _ rfl rfl) (.no _ _ rfl rfl) (by simp)).mono ?_
  rintro e w5 ⟨rfl, b5⟩
  have B5 : Hid (Below w.heap.size w w5) := bthen B4.out b5
  clear b5
  go_wp2_with fail
  go_ret
  exact ⟨rfl, B5.out⟩

theorem walk (l : List UInt8) (m : Int) (w : World) (hl : l.length ≤ 1048576) (hm : w.cell? ⟨1, 0, none⟩ = some (.int .i64 m)) :
    Calls Tryd.prog 3 #[.string ⟨l.toArray⟩] w fun e w' => e = .returned (.bool true) ∧ Below w.heap.size w w' := by
  by_cases hy : ∃ W H cs, Gd W H cs ∧ l = txt W cs
  · obtain ⟨W, H, cs, hg, rfl⟩ := hy
    exact walk_yes W H cs m w hg hm
  · exact walk_no l m w hl (fun W H cs hg e => hy ⟨W, H, cs, hg, e⟩) hm
end Go.Proofs.YteediekpljjbpaaDoor.MReads
