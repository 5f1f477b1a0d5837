/-
  The law fellkeep.WalkOwn, walked.
-/
import Derived.Test.YtfgdcglgloahfacOW
import Derived.Test.YtfgdcglgloahfacIE
namespace Go.Proofs.Ytfgdcglgloahfac.WOwn
open Go.RowKit
open Nm
attribute [local go_sem ↓] Go.wp_at_zero Go.wp_at_succ

theorem five_cut (v : Value) (w : World) (hv : SlI w v [5]) :
    Calls Try.prog 9 #[v] w fun e w' => ∃ u, e = .returned (.tuple #[u, .int .i64 0]) ∧ Is w' w.heap.size u [5] ∧ Below w.heap.size w w' :=
  cut_yes [5] v w hv (by kernel_rfl) (fun k hk => by
    obtain rfl : k = 0 := by simpa using hk
    rfl)

set_option maxRecDepth 100000 in
set_option maxHeartbeats 16000000 in
theorem walk (va vb : Value) (a b : List Int) (w : World) (ha : SlI w va a) (hb : SlI w vb b) (hla : a.length ≤ 17592186043904) (hlb : b.length ≤ 17592186043904) (hwa : ∀ k, k < a.length → (Lit.int .i64 (a.getD k 0)).wf = true) :
    Calls Try.prog 3 #[va, vb] w fun e w' => e = .returned (.bool true) ∧ Below w.heap.size w w' := by
  obtain ⟨a0, c0, rfl⟩ := ha.val
  obtain ⟨a1, c1, rfl⟩ := hb.val
  have HA : Hid _ := ha
  have HB : Hid _ := hb
  have HWA : Hid _ := hwa
  clear ha hb hwa
  go_enter Try.func3, Try.ntmps3
  go_wp2_with fail
  refine (roomy_any 77 _ a w HA.out hla).mono ?_
  rintro e w1 ⟨rfl, rx, b1⟩
  have X1 : Hid _ := rx
  have B1 : Hid (Below w.heap.size w w1) := b1
  have hx1 := rx.lt
  clear rx b1
  go_wp2_with fail
  refine (roomy_any 78 _ b w1 (HB.out.below B1.out) hlb).mono ?_
  rintro e w2 ⟨rfl, ry, b2⟩
  have X2 : Hid _ := X1.out.below b2
  have Y2 : Hid _ := ry
  have B2 : Hid (Below w.heap.size w w2) := bthen B1.out b2
  have hs1 := B1.out.size
  have hy1 := ry.lt
  clear ry b2 X1 B1
  go_wp2_with fail
  refine (join_any _ _ a b w2 X2.out.sl Y2.out.sl hla hlb).mono ?_
  rintro e w3 ⟨uj, kj, lj, rfl, hlj, ij, b3⟩
  obtain ⟨aj, cj, rfl⟩ := ij.sl.val
  have J3 : Hid _ := ij
  have HOJ : Hid (∀ g, (Value.slice aj lj.length cj).ownBlock = some g → g < w3.heap.size) := fun g hg => (ownBlock_lt ij.own g hg).2
  have X3 : Hid _ := X2.out.below b3
  have Y3 : Hid _ := Y2.out.below b3
  have B3 : Hid (Below w.heap.size w w3) := bthen B2.out b3
  have hs3 := b3.size
  clear ij b3 X2 Y2 B2
  go_wp2_with fail
  refine (cut_any a _ w3 X3.out.sl hla HWA.out).mono ?_
  rintro e w4 ⟨uc, kc, lc, rfl, hlc, ic, b4⟩
  obtain ⟨ac, cc, rfl⟩ := ic.sl.val
  have C4 : Hid _ := ic
  have J4 : Hid _ := J3.out.below b4
  have X4 : Hid _ := X3.out.below b4
  have Y4 : Hid _ := Y3.out.below b4
  have B4 : Hid (Below w.heap.size w w4) := bthen B3.out b4
  have hs4 := b4.size
  clear ic b4 X3 Y3 B3 J3
  go_wp2_with fail
  refine (iequal_yes _ _ a w4 X4.out.sl (HA.out.below B4.out) (by omega)).mono ?_
  rintro e w5 ⟨rfl, b5⟩
  have C5 : Hid _ := C4.out.below b5
  have J5 : Hid _ := J4.out.below b5
  have X5 : Hid _ := X4.out.below b5
  have Y5 : Hid _ := Y4.out.below b5
  have B5 : Hid (Below w.heap.size w w5) := bthen B4.out b5
  have hs5 := b5.size
  clear b5 X4 Y4 B4 J4 C4
  go_wp2_with fail
  refine (iequal_yes _ _ b w5 Y5.out.sl (HB.out.below B5.out) (by omega)).mono ?_
  rintro e w6 ⟨rfl, b6⟩
  have C6 : Hid _ := C5.out.below b6
  have J6 : Hid _ := J5.out.below b6
  have X6 : Hid _ := X5.out.below b6
  have Y6 : Hid _ := Y5.out.below b6
  have B6 : Hid (Below w.heap.size w w6) := bthen B5.out b6
  have hs6 := b6.size
  clear b6 X5 Y5 B5 J5 C5
  go_wp2_with fail
  refine (filled_any w.heap.size a 77 w6 X6.out hla).mono ?_
  rintro e w7 ⟨rfl, b7⟩
  have C7 : Hid _ := C6.out.below b7
  have J7 : Hid _ := J6.out.below b7
  have X7 : Hid _ := X6.out.below b7
  have Y7 : Hid _ := Y6.out.below b7
  have B7 : Hid (Below w.heap.size w w7) := bthen B6.out b7
  have hs7 := b7.size
  clear b7 X6 Y6 B6 J6 C6
  go_wp2_with fail
  refine (filled_any w1.heap.size b 78 w7 Y7.out hlb).mono ?_
  rintro e w8 ⟨rfl, b8⟩
  have C8 : Hid _ := C7.out.below b8
  have J8 : Hid _ := J7.out.below b8
  have X8 : Hid _ := X7.out.below b8
  have Y8 : Hid _ := Y7.out.below b8
  have B8 : Hid (Below w.heap.size w w8) := bthen B7.out b8
  have hs8 := b8.size
  clear b8 X7 Y7 B7 J7 C7
  go_wp2_with fail
  refine (wclone_any _ lj w8 J8.out.sl hlj).mono ?_
  rintro e w9 ⟨up, rfl, ip, b9⟩
  obtain ⟨ap, cp, rfl⟩ := ip.sl.val
  have P9 : Hid _ := ip
  have C9 : Hid _ := C8.out.below b9
  have J9 : Hid _ := J8.out.below b9
  have X9 : Hid _ := X8.out.below b9
  have Y9 : Hid _ := Y8.out.below b9
  have B9 : Hid (Below w.heap.size w w9) := bthen B8.out b9
  have hs9 := b9.size
  clear ip b9 X8 Y8 B8 J8 C8
  go_wp2_with fail
  refine (iclone_any _ lc w9 C9.out.sl (by omega)).mono ?_
  rintro e w10 ⟨uq, rfl, iq, b10⟩
  obtain ⟨aq, cq, rfl⟩ := iq.sl.val
  have Q10 : Hid _ := iq
  have P10 : Hid _ := P9.out.below b10
  have C10 : Hid _ := C9.out.below b10
  have J10 : Hid _ := J9.out.below b10
  have X10 : Hid _ := X9.out.below b10
  have Y10 : Hid _ := Y9.out.below b10
  have B10 : Hid (Below w.heap.size w w10) := bthen B9.out b10
  have hs10 := b10.size
  clear iq b10 X9 Y9 B9 J9 C9 P9
  go_wp2_with fail
  refine (spoil_rm w.heap.size a _ 1 w10 X10.out hla).mono ?_
  rintro e w11 ⟨rfl, g11⟩
  have Q11 : Hid _ := Q10.out.grown g11 (by omega)
  have P11 : Hid _ := P10.out.grown g11 (by omega)
  have C11 : Hid _ := C10.out.grown g11 (by omega)
  have J11 : Hid _ := J10.out.grown g11 (by omega)
  have Y11 : Hid _ := Y10.out.grown g11 (by omega)
  have B11 : Hid (Below w.heap.size w w11) := below_grown B10.out g11 (Nat.le_refl _) B10.out.size
  have hs11 := g11.size
  clear g11 X10 Y10 B10 J10 C10 P10 Q10
  go_wp2_with fail
  refine (spoil_rm w1.heap.size b _ 2 w11 Y11.out hlb).mono ?_
  rintro e w12 ⟨rfl, g12⟩
  have Q12 : Hid _ := Q11.out.grown g12 (by omega)
  have P12 : Hid _ := P11.out.grown g12 (by omega)
  have C12 : Hid _ := C11.out.grown g12 (by omega)
  have J12 : Hid _ := J11.out.grown g12 (by omega)
  have B12 : Hid (Below w.heap.size w w12) := below_grown B11.out g12 hs1 B11.out.size
  have hs12 := g12.size
  clear g12 Y11 B11 J11 C11 P11 Q11
  go_wp2_with fail
  refine (iequal_yes _ _ lj w12 J12.out.sl P12.out.sl (by omega)).mono ?_
  rintro e w13 ⟨rfl, b13⟩
  have Q13 : Hid _ := Q12.out.below b13
  have C13 : Hid _ := C12.out.below b13
  have J13 : Hid _ := J12.out.below b13
  have B13 : Hid (Below w.heap.size w w13) := bthen B12.out b13
  have hs13 := b13.size
  clear b13 B12 J12 C12 P12 Q12
  go_wp2_with fail
  refine (iequal_yes _ _ lc w13 C13.out.sl Q13.out.sl (by omega)).mono ?_
  rintro e w14 ⟨rfl, b14⟩
  have Q14 : Hid _ := Q13.out.below b14
  have C14 : Hid _ := C13.out.below b14
  have J14 : Hid _ := J13.out.below b14
  have B14 : Hid (Below w.heap.size w w14) := bthen B13.out b14
  have hs14 := b14.size
  clear b14 B13 J13 C13 Q13
  go_wp2_with fail
  refine (spoil_is _ w2.heap.size lj 3 w14 J14.out).mono ?_
  rintro e w15 ⟨rfl, g15⟩
  have HH : Hid (Is w15 w9.heap.size (.slice aq lc.length cq) lc ∧ Is w15 w3.heap.size (.slice ac lc.length cc) lc ∧ Below w.heap.size w w15) := by
    rcases g15 with rfl | ⟨g, hg, hbg, hgr⟩
    · exact ⟨Q14.out, C14.out, B14.out⟩
    · have hg3 := HOJ.out g hg
      exact ⟨Q14.out.grown hgr (by omega), C14.out.grown hgr hg3, below_grown B14.out hgr (by omega) B14.out.size⟩
  have Q15 : Hid _ := HH.out.1
  have C15 : Hid _ := HH.out.2.1
  have B15 : Hid _ := HH.out.2.2
  clear g15 B14 J14 C14 Q14 HH
  go_wp2_with fail
  have L16 : Hid _ := lit_nums w15 [5] #[.int .i64 5] 1 rfl rfl
  have b16 : Below w15.heap.size w15 (w15.alloc (.cells #[.int .i64 5] 3)) := balloc (Below.refl _ _) _
  generalize w15.alloc (.cells #[.int .i64 5] 3) = W16 at *
  have Q16 : Hid _ := Q15.out.below b16
  have C16 : Hid _ := C15.out.below b16
  have B16 : Hid (Below w.heap.size w W16) := bthen B15.out b16
  clear b16 Q15 C15 B15
  refine (five_cut _ W16 L16.out).mono ?_
  rintro e w17 ⟨u17, rfl, i17, b17⟩
  obtain ⟨a17, c17, rfl⟩ := i17.sl.val
  have I17 : Hid _ := i17.sl
  have Q17 : Hid _ := Q16.out.below b17
  have C17 : Hid _ := C16.out.below b17
  have B17 : Hid (Below w.heap.size w w17) := bthen B16.out b17
  clear i17 b17 Q16 C16 B16 L16
  go_wp2_with fail
  refine (iequal_yes _ _ lc w17 C17.out.sl Q17.out.sl (by omega)).mono ?_
  rintro e w18 ⟨rfl, b18⟩
  have I18 : Hid _ := I17.out.below b18
  have B18 : Hid (Below w.heap.size w w18) := bthen B17.out b18
  clear b18 I17 Q17 C17 B17
  go_wp2_with fail
  have L19 : Hid _ := lit_nums w18 [5] #[.int .i64 5] 1 rfl rfl
  have b19 : Below w18.heap.size w18 (w18.alloc (.cells #[.int .i64 5] 3)) := balloc (Below.refl _ _) _
  generalize w18.alloc (.cells #[.int .i64 5] 3) = W19 at *
  have B19 : Hid (Below w.heap.size w W19) := bthen B18.out b19
  have I19 : Hid _ := I18.out.below b19
  clear b19
  refine (iequal_yes _ _ [5] W19 I19.out L19.out (by simp)).mono ?_
  rintro e w20 ⟨rfl, b20⟩
  have B20 : Hid (Below w.heap.size w w20) := bthen B19.out b20
  clear b20
  go_wp2_with fail
  go_ret
  exact ⟨rfl, B20.out⟩
end Go.Proofs.Ytfgdcglgloahfac.WOwn
