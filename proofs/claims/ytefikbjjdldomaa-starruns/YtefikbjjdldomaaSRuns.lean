/-
  The law StarRuns.
-/
import Derived.Test.YtefikbjjdldomaaFX
import Derived.Test.YtefikbjjdldomaaQA
import Derived.Test.YtefikbjjdldomaaQC
import Derived.Test.YtefikbjjdldomaaOpenN
import Derived.BigQuiet
namespace Go.Proofs.Ytefikbjjdldomaa.SRuns
open Go.RowKit Go.Deep
open _root_.Go.Proofs.Ytefikbjjdldomaa.Nm Wm Dm Sk

set_option maxRecDepth 100000 in
set_option maxHeartbeats 32000000 in
theorem walk (n s t : Int) (v u : Value) (es : List E) (h : List Int) (w : World) (hv : SlE w v es) (hu : SlI w u h) (hlen : es.length ≤ 9223372036854775807) (hhl : h.length ≤ 9223372036854775807) :
    Calls Try.prog 3 #[.agg #[.int .i64 n, v], .int .i64 s, .int .i64 t, u] w fun e w' => e = .returned (.bool true) ∧ Below w.heap.size w w' := by
  obtain ⟨a0, c0, rfl⟩ := hv.val
  obtain ⟨a1, c1, rfl⟩ := hu.val
  have HV : Hid _ := hv
  have HU : Hid _ := hu
  clear hv hu
  have P0 : Hid _ := box2_new w n (.slice a0 es.length c0) 24
  have B0 : Hid (Below w.heap.size w (w.alloc (.cells #[.int .i64 n, .slice a0 es.length c0] 24))) := balloc (Below.refl _ _) _
  go_enter Try.func3, Try.ntmps3
  go_wp2_with fail
  generalize w.alloc (.cells #[.int .i64 n, .slice a0 es.length c0] 24) = W0 at *
  refine (srun_av n s t _ _ es h W0 (HV.out.below B0.out) (HU.out.below B0.out) hlen hhl).mono ?_
  rintro e w4 ⟨vx, vz, rfl, ix, iz, b4⟩
  obtain ⟨C, hC⟩ : ∃ C, ans (sls n es s t h) (res n s t es h (fun c g => c + g)) = C := ⟨_, rfl⟩
  have HCC : Hid _ := hC
  rw [hC] at ix iz ⊢
  obtain ⟨C0, C1, CP, CO⟩ := C
  simp only at ix iz ⊢
  obtain ⟨dx, ex, rfl⟩ := ix.sl.val
  obtain ⟨dz, ez, rfl⟩ := iz.sl.val
  have B4 : Hid (Below w.heap.size w w4) := bthen B0.out b4
  have LPC : Hid (CP.length ≤ 9223372036854775807) := ix.short
  have LOC : Hid (CO.length ≤ 9223372036854775807) := iz.short
  have IX4 : Hid _ := ix.sl.below (balloc (Below.refl _ _) (.cells #[.slice dx CP.length ex, .int .i64 C1, .slice dz CO.length ez] 29))
  have IZ4 : Hid _ := iz.sl.below (balloc (Below.refl _ _) (.cells #[.slice dx CP.length ex, .int .i64 C1, .slice dz CO.length ez] 29))
  have R4 : Hid (Rb (w4.alloc (.cells #[.slice dx CP.length ex, .int .i64 C1, .slice dz CO.length ez] 29)) w4.heap.size (.slice dx CP.length ex) (.int .i64 C1) (.slice dz CO.length ez)) := ⟨heap_alloc_new w4 _⟩
  have P4 : Hid _ := P0.out.below (bthen b4 (balloc (Below.refl _ _) (.cells #[.slice dx CP.length ex, .int .i64 C1, .slice dz CO.length ez] 29)))
  have B5 : Hid (Below w.heap.size w (w4.alloc (.cells #[.slice dx CP.length ex, .int .i64 C1, .slice dz CO.length ez] 29))) := balloc B4.out _
  clear b4 ix iz hC B4
  obtain ⟨p0, p1⟩ := P4.out
  obtain ⟨F, hF⟩ : ∃ F, w4.heap.size = F := ⟨_, rfl⟩
  go_wp2_with fail
  generalize w4.alloc (.cells #[.slice dx CP.length ex, .int .i64 C1, .slice dz CO.length ez] 29) = W5 at *
  rw [hF] at R4
  clear hF P0
  refine (rslook_any n s t _ _ es h W5 (HV.out.below B5.out) (HU.out.below B5.out) hlen).mono ?_
  rintro e w6 ⟨rfl, b6⟩
  have B6 : Hid (Below w.heap.size w w6) := bthen B5.out b6
  have P6 : Hid _ := P4.out.below b6
  have R6 : Hid _ := R4.out.below b6
  have IX6 : Hid _ := IX4.out.below b6
  have IZ6 : Hid _ := IZ4.out.below b6
  clear b6 p0 p1 P4 R4 IX4 IZ4
  obtain ⟨p0, p1⟩ := P6.out
  go_wp2_with fail
  refine (slook_any n s t _ _ es h w6 (HV.out.below B6.out) (HU.out.below B6.out) hlen hhl).mono ?_
  rintro e w7 ⟨rfl, b7⟩
  have B7 : Hid (Below w.heap.size w w7) := bthen B6.out b7
  have P7 : Hid _ := P6.out.below b7
  have R7 : Hid _ := R6.out.below b7
  have IX7 : Hid _ := IX6.out.below b7
  have IZ7 : Hid _ := IZ6.out.below b7
  clear b7 p0 p1 P6 R6 IX6 IZ6
  obtain ⟨p0, p1⟩ := P7.out
  obtain ⟨cd, hcd⟩ : ∃ cd, sls n es s t h = cd := ⟨_, rfl⟩
  have HCD : Hid _ := hcd
  rw [hcd]
  clear hcd
  by_cases hc : cd = 0
  · subst hc
    obtain ⟨N, S, T, rfl, rfl, rfl, hSN, hTN, hp, hg, hl⟩ := sls_zero HCD.out
    have hag := agr_of hl hg
    obtain ⟨hln, hrg⟩ := gus_fx hl hg
    have RSR : Hid (∀ W, Below w.heap.size w W → Calls Try.prog 15 #[.agg #[.int .i64 N, .slice a0 es.length c0], .int .i64 S, .int .i64 T, .slice a1 h.length c1, .func (.func 16) #[] #[]] W fun e w' => Av W w' (C0, C1, CP, CO) e) := fun W hb => by
      have h1 := rsearch_any N S T es h _ _ 16 #[] (fun c g => c + g) W (HV.out.below hb) (HU.out.below hb) hp hSN hTN hln (starkey W) hrg (dn_star W (HV.out.below hb) hp hSN hTN hag)
      have h2 := HCC.out
      rw [HCD.out] at h2
      rw [← h2]
      exact h1.mono fun e w' hb => av_bk rfl hb
    clear hp hg hl hag hln hrg
    obtain ⟨k0, k1, k2⟩ := R7.out.cell
    go_wp2_with fail
    refine (RSR.out w7 B7.out).mono ?_
    rintro e w8 ⟨vx, vz, rfl, ix, iz, b8⟩
    simp only at ix iz ⊢
    obtain ⟨gx, jx, rfl⟩ := ix.sl.val
    obtain ⟨gz, jz, rfl⟩ := iz.sl.val
    have B8 : Hid (Below w.heap.size w (w8.alloc (.cells #[.slice gx CP.length jx, .int .i64 C1, .slice gz CO.length jz] 29))) := balloc (bthen B7.out b8) _
    have b9 := bthen b8 (balloc (Below.refl _ _) (.cells #[.slice gx CP.length jx, .int .i64 C1, .slice gz CO.length jz] 29))
    have R8 : Hid _ := R7.out.below b9
    have IX8 : Hid _ := IX7.out.below b9
    have IZ8 : Hid _ := IZ7.out.below b9
    have IX9 : Hid _ := ix.sl.below (balloc (Below.refl _ _) (.cells #[.slice gx CP.length jx, .int .i64 C1, .slice gz CO.length jz] 29))
    have IZ9 : Hid _ := iz.sl.below (balloc (Below.refl _ _) (.cells #[.slice gx CP.length jx, .int .i64 C1, .slice gz CO.length jz] 29))
    have R9 : Hid (Rb (w8.alloc (.cells #[.slice gx CP.length jx, .int .i64 C1, .slice gz CO.length jz] 29)) w8.heap.size (.slice gx CP.length jx) (.int .i64 C1) (.slice gz CO.length jz)) := ⟨heap_alloc_new w8 _⟩
    have CS : Hid _ := fun (_ : Unit) => samefound_yes C1 _ _ _ _ CP CO _ IX8.out IX9.out IZ8.out IZ9.out LPC.out LOC.out
    obtain ⟨FX, hFX⟩ : ∃ FX, w8.heap.size = FX := ⟨_, rfl⟩
    clear b8 b9 ix iz k0 k1 k2 p0 p1 R7 IX7 IZ7
    obtain ⟨k0, k1, k2⟩ := R8.out.cell
    obtain ⟨m0, m1, m2⟩ := R9.out.cell
    rw [hFX] at m0 m1 m2
    go_wp2_with fail
    refine (CS.out ()).mono ?_
    rintro e w10 ⟨rfl, b10⟩
    have B10 : Hid (Below w.heap.size w w10) := bthen B8.out b10
    clear b10
    go_wp2_with fail
    go_ret
    exact ⟨rfl, B10.out⟩
  · have hz : (cd != 0) = true := by simp [hc]
    have HA : Hid (C0 = cd ∧ C1 = 0 ∧ CP = [] ∧ CO = []) := by
      have h1 := HCC.out
      rw [HCD.out] at h1
      unfold ans at h1
      rw [if_pos hc] at h1
      simp only [Prod.mk.injEq] at h1
      exact ⟨h1.1.symm, h1.2.1.symm, h1.2.2.1.symm, h1.2.2.2.symm⟩
    obtain ⟨rfl, rfl, rfl, rfl⟩ := HA.out
    clear hc
    obtain ⟨k0, k1, k2⟩ := R7.out.cell
    simp only [List.length_nil] at k0 k2 R7 IX7 IZ7
    have CS : Hid _ := fun (_ : Unit) => samefound_yes 0 (.slice dx 0 ex) (.slice none 0 0) (.slice dz 0 ez) (.slice none 0 0) [] [] w7 IX7.out (SlI.no none 0 rfl rfl) IZ7.out (SlI.no none 0 rfl rfl) (by simp) (by simp)
    go_wp2_with fail
    refine (CS.out ()).mono ?_
    rintro e w8 ⟨rfl, b8⟩
    have B8 : Hid (Below w.heap.size w w8) := bthen B7.out b8
    clear b8
    go_wp2_with fail
    go_ret
    exact ⟨rfl, B8.out⟩
end Go.Proofs.Ytefikbjjdldomaa.SRuns
