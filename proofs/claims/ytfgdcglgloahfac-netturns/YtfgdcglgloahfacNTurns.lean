/-
  The law felllaw.NetTurns, walked.
-/
import Derived.Test.YtfgdcglgloahfacNE
namespace Go.Proofs.Ytfgdcglgloahfac.NTurns
open Go.RowKit
open Nm

set_option maxRecDepth 100000 in
set_option maxHeartbeats 8000000 in
theorem walk (n : Int) (v : Value) (es : List E) (w : World) (hv : SlE w v es) (hlen : es.length ≤ 9223372036854775807) :
    Calls Try.prog 5 #[.agg #[.int .i64 n, v]] w fun e w' => e = .returned (.bool true) ∧ Below w.heap.size w w' := by
  obtain ⟨a0, c0, rfl⟩ := hv.val
  have HV : Hid _ := hv
  clear hv
  by_cases hc : nck n es = 0
  · have HC : Hid _ := hc
    have HG : Hid _ := nck_zero.1 hc
    have hl6 := (nck_zero.1 hc).len
    have HTY : Hid _ := fun v w hv => turn_yes n v es w hv HG.out
    have HTR : Hid _ := fun v w hv => rturned_any n v es w hv hl6
    have hlm : (es.map trn).length ≤ 600 := by simp; omega
    clear hc
    generalize es.map trn = fs at *
    go_enter Try.func5, Try.ntmps5
    go_wp2_with fail
    have P0 : Hid _ := box2_new w n (.slice a0 es.length c0) 34
    have B0 : Hid (Below w.heap.size w (w.alloc (.cells #[.int .i64 n, .slice a0 es.length c0] 34))) := balloc (Below.refl _ _) _
    generalize w.alloc (.cells #[.int .i64 n, .slice a0 es.length c0] 34) = W0 at *
    refine (HTY.out _ W0 (HV.out.below B0.out)).mono ?_
    rintro e w1 ⟨u, rfl, o1, b1⟩
    obtain ⟨au, cu, rfl⟩ := o1.sl.val
    have O1 : Hid _ := o1.sl
    have P1 : Hid _ := P0.out.below b1
    have B1 : Hid (Below w.heap.size w w1) := bthen B0.out b1
    clear o1 b1 P0 B0
    have P2 : Hid _ := P1.out.below (balloc (Below.refl _ _) (.cells #[.int .i64 n, .slice au fs.length cu] 34))
    obtain ⟨p0, p1⟩ := P2.out
    go_wp2_with fail
    have Q2 : Hid _ := box2_new w1 n (.slice au fs.length cu) 34
    have B12 : Hid (Below w1.heap.size w1 (w1.alloc (.cells #[.int .i64 n, .slice au fs.length cu] 34))) := balloc (Below.refl _ _) _
    generalize w1.alloc (.cells #[.int .i64 n, .slice au fs.length cu] 34) = W2 at *
    have O2 : Hid _ := O1.out.below B12.out
    have B2 : Hid (Below w.heap.size w W2) := bthen B1.out B12.out
    obtain ⟨X, hX⟩ : ∃ X, w1.heap.size = X := ⟨_, rfl⟩
    rw [hX] at Q2 ⊢
    clear hX p0 p1 B12 O1 P1 B1
    refine (rnet_any n _ es W2 (HV.out.below B2.out) hlen).mono ?_
    rintro e w3 ⟨rfl, b3⟩
    have P3 : Hid _ := P2.out.below b3
    have Q3 : Hid _ := Q2.out.below b3
    have O3 : Hid _ := O2.out.below b3
    have B3 : Hid (Below w.heap.size w w3) := bthen B2.out b3
    have V3 : Hid _ := HV.out.below B3.out
    rw [HC.out]
    clear b3 P2 Q2 O2 B2
    obtain ⟨p0, p1⟩ := P3.out
    obtain ⟨q0, q1⟩ := Q3.out
    have KP : Hid (∀ w', Below w3.heap.size w3 w' → w'.cell? ⟨w.heap.size, 0, none⟩ = some (.int .i64 n) ∧ w'.cell? ⟨w.heap.size, 1, none⟩ = some (.slice a0 es.length c0) ∧ w'.cell? ⟨X, 0, none⟩ = some (.int .i64 n) ∧ w'.cell? ⟨X, 1, none⟩ = some (.slice au fs.length cu)) := fun w' hb => ⟨kept hb P3.out.g0, kept hb P3.out.g1, kept hb Q3.out.g0, kept hb Q3.out.g1⟩
    go_wp2_with fail
    go_region_held3 (fun w' => w'.cell? ⟨w.heap.size, 0, none⟩ = some (.int .i64 n) ∧ w'.cell? ⟨w.heap.size, 1, none⟩ = some (.slice a0 es.length c0) ∧ w'.cell? ⟨X, 0, none⟩ = some (.int .i64 n) ∧ w'.cell? ⟨X, 1, none⟩ = some (.slice au fs.length cu)) (first | go_keep | exact KP.out _ BB.out)
      (first
       | (go_at_call 21; refine (HTR.out _ _ ?_).mono ?_; (first | exact V3.out.below (Below.drew (Below.refl _ _)) | exact V3.out.below BB.out); rintro e w4 ⟨u, rfl, o4, b4⟩; obtain ⟨a4, c4, rfl⟩ := o4.val; have O4 : Hid _ := o4; clear o4; have BB : Hid (Below w3.heap.size w3 w4) := (by first | exact bthen (Below.drew (Below.refl _ _)) b4 | exact bthen BB.out b4))
       | (go_at_call 20; refine (sameNet_yes n _ _ fs _ ?_ ?_ (by omega)).mono ?_; (exact O3.out.below BB.out); (exact O4.out); rintro e w5 ⟨rfl, b5⟩; have BB : Hid (Below w3.heap.size w3 w5) := (by exact bthen BB.out b5))
       | fail)
    all_goals
      go_wp2_with fail
      go_ret
      exact ⟨rfl, bthen B3.out BB.out⟩
  · have hz : (nck n es != 0) = true := by simp [hc]
    have HC : Hid _ := hc
    clear hc
    go_enter Try.func5, Try.ntmps5
    go_wp2_with fail
    have P0 : Hid _ := box2_new w n (.slice a0 es.length c0) 34
    have B0 : Hid (Below w.heap.size w (w.alloc (.cells #[.int .i64 n, .slice a0 es.length c0] 34))) := balloc (Below.refl _ _) _
    generalize w.alloc (.cells #[.int .i64 n, .slice a0 es.length c0] 34) = W0 at *
    refine (turn_bad n _ es W0 (HV.out.below B0.out) hlen HC.out).mono ?_
    rintro e w1 ⟨rfl, b1⟩
    have P1 : Hid _ := P0.out.below b1
    have B1 : Hid (Below w.heap.size w w1) := bthen B0.out b1
    clear b1 P0 B0
    have P2 : Hid _ := P1.out.below (balloc (Below.refl _ _) (.cells #[.int .i64 0, .slice none 0 0] 34))
    obtain ⟨p0, p1⟩ := P2.out
    go_wp2_with fail
    have Q2 : Hid _ := box2_new w1 0 (.slice none 0 0) 34
    have B12 : Hid (Below w1.heap.size w1 (w1.alloc (.cells #[.int .i64 0, .slice none 0 0] 34))) := balloc (Below.refl _ _) _
    generalize w1.alloc (.cells #[.int .i64 0, .slice none 0 0] 34) = W2 at *
    have B2 : Hid (Below w.heap.size w W2) := bthen B1.out B12.out
    clear p0 p1 B12 P1 B1
    refine (rnet_any n _ es W2 (HV.out.below B2.out) hlen).mono ?_
    rintro e w3 ⟨rfl, b3⟩
    have B3 : Hid (Below w.heap.size w w3) := bthen B2.out b3
    obtain ⟨q0, q1⟩ := Q2.out.below b3
    clear b3
    go_wp2_with fail
    refine (sameNet_yes 0 _ _ [] w3 (.no _ _ rfl rfl) (.no _ _ rfl rfl) (by simp)).mono ?_
    rintro e w4 ⟨rfl, b4⟩
    have B4 : Hid (Below w.heap.size w w4) := bthen B3.out b4
    clear b4
    go_wp2_with fail
    go_ret
    exact ⟨rfl, B4.out⟩
end Go.Proofs.Ytfgdcglgloahfac.NTurns
