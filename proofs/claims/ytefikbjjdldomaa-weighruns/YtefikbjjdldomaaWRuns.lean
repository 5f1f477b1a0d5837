/-
  The law WeighRuns.
-/
import Derived.Test.YtefikbjjdldomaaFX
import Derived.Test.YtefikbjjdldomaaQA
import Derived.Test.YtefikbjjdldomaaQC
import Derived.Test.YtefikbjjdldomaaOpenN
import Derived.BigQuiet
namespace Go.Proofs.Ytefikbjjdldomaa.WRuns
open Go.RowKit Go.Deep
open _root_.Go.Proofs.Ytefikbjjdldomaa.Nm Wm Dm Sk

set_option maxRecDepth 100000 in
set_option maxHeartbeats 32000000 in
theorem walk (n s t num den : Int) (v u : Value) (es : List E) (h : List Int) (w : World) (hv : SlE w v es) (hu : SlI w u h) (hlen : es.length ≤ 9223372036854775807) (hhl : h.length ≤ 9223372036854775807) :
    Calls Try.prog 4 #[.agg #[.int .i64 n, v], .int .i64 s, .int .i64 t, u, .agg #[.int .i64 num, .int .i64 den]] w fun e w' => e = .returned (.bool true) ∧ Below w.heap.size w w' := by
  obtain ⟨a0, c0, rfl⟩ := hv.val
  obtain ⟨a1, c1, rfl⟩ := hu.val
  have HV : Hid _ := hv
  have HU : Hid _ := hu
  clear hv hu
  go_enter Try.func4, Try.ntmps4
  have P0 : Hid _ := (box2_new w n (.slice a0 es.length c0) 24).below (balloc (Below.refl _ _) (.cells #[.int .i64 num, .int .i64 den] 39))
  have V0 : Hid (((w.alloc (.cells #[.int .i64 n, .slice a0 es.length c0] 24)).alloc (.cells #[.int .i64 num, .int .i64 den] 39)).heap[w.heap.size + 1]? = some (.cells #[.int .i64 num, .int .i64 den] 39 (0, 0))) := new_at _ _ (by simp)
  have B0 : Hid (Below w.heap.size w ((w.alloc (.cells #[.int .i64 n, .slice a0 es.length c0] 24)).alloc (.cells #[.int .i64 num, .int .i64 den] 39))) := balloc (balloc (Below.refl _ _) _) _
  obtain ⟨RB, hRB⟩ : ∃ RB, w.heap.size + 1 = RB := ⟨_, rfl⟩
  rw [hRB] at V0
  have v0 : ((w.alloc (.cells #[.int .i64 n, .slice a0 es.length c0] 24)).alloc (.cells #[.int .i64 num, .int .i64 den] 39)).cell? ⟨RB, 0, none⟩ = some (.int .i64 num) := by simp [World.cell?, V0.out]
  have v1 : ((w.alloc (.cells #[.int .i64 n, .slice a0 es.length c0] 24)).alloc (.cells #[.int .i64 num, .int .i64 den] 39)).cell? ⟨RB, 1, none⟩ = some (.int .i64 den) := by simp [World.cell?, V0.out]
  go_wp2_with fail
  clear hRB
  generalize (w.alloc (.cells #[.int .i64 n, .slice a0 es.length c0] 24)).alloc (.cells #[.int .i64 num, .int .i64 den] 39) = W0 at *
  have ALL : Hid (∀ W, Below W0.heap.size W0 W → (W.cell? ⟨RB, 0, none⟩ = some (.int .i64 num) ∧ W.cell? ⟨RB, 1, none⟩ = some (.int .i64 den))) := fun W hb => ⟨kept hb v0, kept hb v1⟩
  obtain ⟨wc, hwc⟩ : ∃ wc, wtk num den = wc := ⟨_, rfl⟩
  have HWC : Hid _ := hwc
  have CA : Hid (∀ W, Calls Try.prog 17 #[.agg #[.int .i64 num, .int .i64 den]] W fun e w' => e = .returned (.int .i64 wc) ∧ Below W.heap.size W w') := fun W => by rw [← HWC.out]; exact weight_any num den W
  have CB : Hid (∀ W, Calls Try.prog 18 #[.agg #[.int .i64 num, .int .i64 den]] W fun e w' => e = .returned (.int .i64 wc) ∧ Below W.heap.size W w') := fun W => by rw [← HWC.out]; exact rweight_any num den W
  clear hwc
  go_region_held3 (fun w' => w'.cell? ⟨RB, 0, none⟩ = some (.int .i64 num) ∧ w'.cell? ⟨RB, 1, none⟩ = some (.int .i64 den)) (first | go_keep | exact KEEP.out)
    (first
     | (go_at_call 17; refine (CA.out _).mono ?_; rintro e w1 ⟨rfl, b1⟩; have BA : Hid (Below W0.heap.size W0 w1) := (by exact bthen (Below.drew (Below.refl _ _)) b1); clear b1; have KEEP : Hid (w1.cell? ⟨RB, 0, none⟩ = some (.int .i64 num) ∧ w1.cell? ⟨RB, 1, none⟩ = some (.int .i64 den)) := ALL.out _ BA.out)
     | (go_at_call 18; refine (CB.out _).mono ?_; rintro e w2 ⟨rfl, b2⟩; have BB : Hid (Below W0.heap.size W0 w2) := (by exact bthen BA.out b2); clear b2; have KEEP : Hid (w2.cell? ⟨RB, 0, none⟩ = some (.int .i64 num) ∧ w2.cell? ⟨RB, 1, none⟩ = some (.int .i64 den)) := ALL.out _ BB.out)
     | fail)
  have B2 : Hid (Below w.heap.size w w2) := bthen B0.out BB.out
  have P2 : Hid _ := P0.out.below BB.out
  have V2 : Hid _ := (BB.out.block _ (heap_lt' V0.out)).trans V0.out
  clear v0 v1 ALL CA CB KEEP BA BB P0 V0 B0
  have v0 : w2.cell? ⟨RB, 0, none⟩ = some (.int .i64 num) := by simp [World.cell?, V2.out]
  have v1 : w2.cell? ⟨RB, 1, none⟩ = some (.int .i64 den) := by simp [World.cell?, V2.out]
  obtain ⟨p0, p1⟩ := P2.out
  go_wp2_with fail
  refine (wrun_av n s t num den _ _ es h w2 (HV.out.below B2.out) (HU.out.below B2.out) hlen hhl).mono ?_
  rintro e w4 ⟨vx, vz, rfl, ix, iz, b4⟩
  obtain ⟨C, hC⟩ : ∃ C, ans (wco n s t num den es h) (res n s t es h (fun c g => den * c + num * g)) = C := ⟨_, rfl⟩
  have HCC : Hid _ := hC
  rw [hC] at ix iz ⊢
  obtain ⟨C0, C1, CP, CO⟩ := C
  simp only at ix iz ⊢
  obtain ⟨dx, ex, rfl⟩ := ix.sl.val
  obtain ⟨dz, ez, rfl⟩ := iz.sl.val
  have B4 : Hid (Below w.heap.size w w4) := bthen B2.out b4
  have LPC : Hid (CP.length ≤ 9223372036854775807) := ix.short
  have LOC : Hid (CO.length ≤ 9223372036854775807) := iz.short
  have IX4 : Hid _ := ix.sl.below (balloc (Below.refl _ _) (.cells #[.slice dx CP.length ex, .int .i64 C1, .slice dz CO.length ez] 29))
  have IZ4 : Hid _ := iz.sl.below (balloc (Below.refl _ _) (.cells #[.slice dx CP.length ex, .int .i64 C1, .slice dz CO.length ez] 29))
  have R4 : Hid (Rb (w4.alloc (.cells #[.slice dx CP.length ex, .int .i64 C1, .slice dz CO.length ez] 29)) w4.heap.size (.slice dx CP.length ex) (.int .i64 C1) (.slice dz CO.length ez)) := ⟨heap_alloc_new w4 _⟩
  have b5 := bthen b4 (balloc (Below.refl _ _) (.cells #[.slice dx CP.length ex, .int .i64 C1, .slice dz CO.length ez] 29))
  have P4 : Hid _ := P2.out.below b5
  have V4 : Hid _ := (b5.block _ (heap_lt' V2.out)).trans V2.out
  have B5 : Hid (Below w.heap.size w (w4.alloc (.cells #[.slice dx CP.length ex, .int .i64 C1, .slice dz CO.length ez] 29))) := balloc B4.out _
  clear b4 b5 ix iz hC B4 P2 V2 B2 v0 v1 p0 p1
  obtain ⟨p0, p1⟩ := P4.out
  obtain ⟨F, hF⟩ : ∃ F, w4.heap.size = F := ⟨_, rfl⟩
  go_wp2_with fail
  generalize w4.alloc (.cells #[.slice dx CP.length ex, .int .i64 C1, .slice dz CO.length ez] 29) = W5 at *
  rw [hF] at R4
  clear hF
  refine (rslook_any n s t _ _ es h W5 (HV.out.below B5.out) (HU.out.below B5.out) hlen).mono ?_
  rintro e w6 ⟨rfl, b6⟩
  have B6 : Hid (Below w.heap.size w w6) := bthen B5.out b6
  have P6 : Hid _ := P4.out.below b6
  have V6 : Hid _ := (b6.block _ (heap_lt' V4.out)).trans V4.out
  have R6 : Hid _ := R4.out.below b6
  have IX6 : Hid _ := IX4.out.below b6
  have IZ6 : Hid _ := IZ4.out.below b6
  clear b6 p0 p1 P4 R4 IX4 IZ4 V4
  obtain ⟨p0, p1⟩ := P6.out
  have v0 : w6.cell? ⟨RB, 0, none⟩ = some (.int .i64 num) := by simp [World.cell?, V6.out]
  have v1 : w6.cell? ⟨RB, 1, none⟩ = some (.int .i64 den) := by simp [World.cell?, V6.out]
  obtain ⟨cd, hcd⟩ : ∃ cd, sls n es s t h = cd := ⟨_, rfl⟩
  have HCD : Hid _ := hcd
  rw [hcd]
  clear hcd
  by_cases hc : cd = 0
  · subst hc
    go_wp2_with fail
    refine (rweight_any num den w6).mono ?_
    rintro e w7 ⟨rfl, b7⟩
    have B7 : Hid (Below w.heap.size w w7) := bthen B6.out b7
    have P7 : Hid _ := P6.out.below b7
    have V7 : Hid _ := (b7.block _ (heap_lt' V6.out)).trans V6.out
    have R7 : Hid _ := R6.out.below b7
    have IX7 : Hid _ := IX6.out.below b7
    have IZ7 : Hid _ := IZ6.out.below b7
    rw [HWC.out]
    clear b7 p0 p1 P6 R6 IX6 IZ6 V6 v0 v1
    obtain ⟨p0, p1⟩ := P7.out
    by_cases hc : wc = 0
    · subst hc
      obtain ⟨N, S, T, rfl, rfl, rfl, hSN, hTN, hp, hg, hl⟩ := sls_zero HCD.out
      have hag := agr_of hl hg
      obtain ⟨hln, hrg⟩ := gus_fx hl hg
      obtain ⟨hz1, hz2, hz3⟩ := wtk_zero HWC.out
      have RSR : Hid (∀ W, Below w7.heap.size w7 W → Calls Try.prog 15 #[.agg #[.int .i64 N, .slice a0 es.length c0], .int .i64 S, .int .i64 T, .slice a1 h.length c1, .func (.func 20) #[] #[.pointer (some ⟨RB, 0, none⟩)]] W fun e w' => Av W w' (C0, C1, CP, CO) e) := fun W hb => by
        have hV := (hb.block _ (heap_lt' V7.out)).trans V7.out
        have hw0 : W.cell? ⟨RB, 0, none⟩ = some (.int .i64 num) := by simp [World.cell?, hV]
        have hw1 : W.cell? ⟨RB, 1, none⟩ = some (.int .i64 den) := by simp [World.cell?, hV]
        have hbb := bthen B7.out hb
        have h1 := rsearch_any N S T es h _ _ 20 #[.pointer (some ⟨RB, 0, none⟩)] (fun c g => c * den + g * num) W (HV.out.below hbb) (HU.out.below hbb) hp hSN hTN hln (weighkey W RB num den hw0 hw1 (by omega) (by omega) (by omega) (by omega)) hrg (dn_weigh W (HV.out.below hbb) hp hSN hTN hag (by omega) (by omega))
        have h2 := HCC.out
        unfold wco at h2
        rw [HCD.out, if_neg (by simp), HWC.out] at h2
        rw [← h2]
        rw [key_swap] at h1
        exact h1.mono fun e w' hb => av_bk rfl hb
      clear hp hg hl hag hln hrg hz1 hz2 hz3
      obtain ⟨k0, k1, k2⟩ := R7.out.cell
      go_wp2_with fail
      refine (RSR.out _ (Below.refl _ _)).mono ?_
      rintro e w8 ⟨vx, vz, rfl, ix, iz, b8⟩
      simp only at ix iz ⊢
      obtain ⟨gx, jx, rfl⟩ := ix.sl.val
      obtain ⟨gz, jz, rfl⟩ := iz.sl.val
      have B8 : Hid (Below w.heap.size w (w8.alloc (.cells #[.slice gx CP.length jx, .int .i64 C1, .slice gz CO.length jz] 29))) := balloc (bthen B7.out b8) _
      have b9 := bthen b8 (balloc (Below.refl _ _) (.cells #[.slice gx CP.length jx, .int .i64 C1, .slice gz CO.length jz] 29))
      have R8 : Hid _ := R7.out.below b9
      have IX8 : Hid _ := IX7.out.below b9
      have IZ8 : Hid _ := IZ7.out.below b9
      have IX9 : Hid _ := ix.sl.below (balloc (Below.refl _ _) (.cells #[.slice gx CP.length jx, .int .i64 C1, .slice gz CO.length jz] 29))
      have IZ9 : Hid _ := iz.sl.below (balloc (Below.refl _ _) (.cells #[.slice gx CP.length jx, .int .i64 C1, .slice gz CO.length jz] 29))
      have R9 : Hid (Rb (w8.alloc (.cells #[.slice gx CP.length jx, .int .i64 C1, .slice gz CO.length jz] 29)) w8.heap.size (.slice gx CP.length jx) (.int .i64 C1) (.slice gz CO.length jz)) := ⟨heap_alloc_new w8 _⟩
      have CS : Hid _ := fun (_ : Unit) => samefound_yes C1 _ _ _ _ CP CO _ IX8.out IX9.out IZ8.out IZ9.out LPC.out LOC.out
      obtain ⟨FX, hFX⟩ : ∃ FX, w8.heap.size = FX := ⟨_, rfl⟩
      clear b8 b9 ix iz k0 k1 k2 p0 p1 R7 IX7 IZ7
      obtain ⟨k0, k1, k2⟩ := R8.out.cell
      obtain ⟨m0, m1, m2⟩ := R9.out.cell
      rw [hFX] at m0 m1 m2
      go_wp2_with fail
      refine (CS.out ()).mono ?_
      rintro e w10 ⟨rfl, b10⟩
      have B10 : Hid (Below w.heap.size w w10) := bthen B8.out b10
      clear b10
      go_wp2_with fail
      go_ret
      exact ⟨rfl, B10.out⟩
    · have hz : (wc != 0) = true := by simp [hc]
      have HA : Hid (C0 = wc ∧ C1 = 0 ∧ CP = [] ∧ CO = []) := by
        have h1 := HCC.out
        unfold wco at h1
        rw [HCD.out, if_neg (by simp), HWC.out] at h1
        unfold ans at h1
        rw [if_pos hc] at h1
        simp only [Prod.mk.injEq] at h1
        exact ⟨h1.1.symm, h1.2.1.symm, h1.2.2.1.symm, h1.2.2.2.symm⟩
      obtain ⟨rfl, rfl, rfl, rfl⟩ := HA.out
      clear hc
      obtain ⟨k0, k1, k2⟩ := R7.out.cell
      simp only [List.length_nil] at k0 k2 R7 IX7 IZ7
      have CS : Hid _ := fun (_ : Unit) => samefound_yes 0 (.slice dx 0 ex) (.slice none 0 0) (.slice dz 0 ez) (.slice none 0 0) [] [] w7 IX7.out (SlI.no none 0 rfl rfl) IZ7.out (SlI.no none 0 rfl rfl) (by simp) (by simp)
      go_wp2_with fail
      refine (CS.out ()).mono ?_
      rintro e w8 ⟨rfl, b8⟩
      have B8 : Hid (Below w.heap.size w w8) := bthen B7.out b8
      clear b8
      go_wp2_with fail
      go_ret
      exact ⟨rfl, B8.out⟩
  · have hz : (cd != 0) = true := by simp [hc]
    have hz2 : (cd == 0) = false := by simp [hc]
    have HA : Hid (C0 = cd ∧ C1 = 0 ∧ CP = [] ∧ CO = []) := by
      have h1 := HCC.out
      unfold wco at h1
      rw [HCD.out, if_pos hc] at h1
      unfold ans at h1
      rw [if_pos hc] at h1
      simp only [Prod.mk.injEq] at h1
      exact ⟨h1.1.symm, h1.2.1.symm, h1.2.2.1.symm, h1.2.2.2.symm⟩
    obtain ⟨rfl, rfl, rfl, rfl⟩ := HA.out
    clear hc
    obtain ⟨k0, k1, k2⟩ := R6.out.cell
    simp only [List.length_nil] at k0 k2 R6 IX6 IZ6
    have CS : Hid _ := fun (_ : Unit) => samefound_yes 0 (.slice dx 0 ex) (.slice none 0 0) (.slice dz 0 ez) (.slice none 0 0) [] [] w6 IX6.out (SlI.no none 0 rfl rfl) IZ6.out (SlI.no none 0 rfl rfl) (by simp) (by simp)
    go_wp2_with fail
    refine (CS.out ()).mono ?_
    rintro e w8 ⟨rfl, b8⟩
    have B8 : Hid (Below w.heap.size w w8) := bthen B6.out b8
    clear b8
    go_wp2_with fail
    go_ret
    exact ⟨rfl, B8.out⟩
end Go.Proofs.Ytefikbjjdldomaa.WRuns
