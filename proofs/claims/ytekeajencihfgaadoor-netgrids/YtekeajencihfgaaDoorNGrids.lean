/-
  The law felllaw.NetGrids, walked.
-/
import Derived.Test.YtekeajencihfgaaDoorOB
namespace Go.Proofs.YtekeajencihfgaaDoor.NGrids
open Go.RowKit
open Gm

set_option maxRecDepth 100000 in
set_option maxHeartbeats 4000000 in
theorem sameNet_yes (n : Int) (v u : Value) (es : List (Int × Int × Int)) (w : World) (hv : SlE w v es) (hu : SlE w u es) (hl : es.length ≤ 9223372036854775807) :
    Calls Tryd.prog 7 #[.agg #[.int .i64 n, v], .agg #[.int .i64 n, u]] w fun e w' => e = .returned (.bool true) ∧ Below w.heap.size w w' := by
  obtain ⟨a, c, rfl⟩ := hv.val
  obtain ⟨a', c', rfl⟩ := hu.val
  have HV : Hid _ := hv
  have HU : Hid _ := hu
  clear hv hu
  go_enter Tryd.func7, Tryd.ntmps7
  go_wp2_with fail
  have B1 : Hid (Below w.heap.size w ((w.alloc (.cells #[.int .i64 n, .slice a es.length c] 27)).alloc (.cells #[.int .i64 n, .slice a' es.length c'] 27))) := balloc (balloc (Below.refl _ _) _) _
  generalize (w.alloc (.cells #[.int .i64 n, .slice a es.length c] 27)).alloc (.cells #[.int .i64 n, .slice a' es.length c'] 27) = W1 at *
  refine (eequal_yes _ _ es W1 (HV.out.below B1.out) (HU.out.below B1.out) hl).mono ?_
  rintro e w2 ⟨rfl, q, rfl⟩
  go_wp2_with fail
  go_ret
  exact ⟨rfl, bdrewN B1.out q⟩

/-- The net's box. -/
structure Box2 (W : World) (B : Nat) (n : Int) (v : Value) : Prop where
  g0 : W.cell? ⟨B, 0, none⟩ = some (.int .i64 n)
  g1 : W.cell? ⟨B, 1, none⟩ = some v
theorem Box2.below {W W' : World} {B : Nat} {n : Int} {v : Value} (h : Box2 W B n v) (hb : Below W.heap.size W W') : Box2 W' B n v :=
  ⟨kept hb h.g0, kept hb h.g1⟩
theorem box2_new (w : World) (n : Int) (v : Value) (t : TypeId) : Box2 (w.alloc (.cells #[.int .i64 n, v] t)) w.heap.size n v :=
  ⟨cell_new w _ _ 0 _ rfl, cell_new w _ _ 1 _ rfl⟩

set_option maxRecDepth 100000 in
set_option maxHeartbeats 8000000 in
theorem walk (W H : Int) (v : Value) (cs : List Int) (w : World) (hv : SlI w v cs) (hlen : cs.length ≤ 9223372036854775807) (hs : Steps w) :
    Calls Tryd.prog 3 #[.agg #[.int .i64 W, .int .i64 H, v]] w fun e w' => e = .returned (.bool true) ∧ Below w.heap.size w w' := by
  obtain ⟨a0, c0, rfl⟩ := hv.val
  have HV : Hid _ := hv
  have HS : Hid _ := hs
  clear hv hs
  by_cases hc : gchk W H cs = 0
  · have HC : Hid _ := hc
    have hgd := gchk_zero hc
    have hle := hgd.le
    have HOY : Hid _ := fun v w hv hs => of_yes W H v cs w hv hc hs
    have HRO : Hid _ := fun v w hv => rof_any W H v cs w hv hgd
    rw [← hgd.len] at HRO
    have hal := am_length cs W H cs.length
    clear hc hgd
    generalize am cs W H cs.length = fs at *
    go_enter Tryd.func3, Tryd.ntmps3
    go_wp2_with fail
    have P0 : Hid _ := box3_start w W H (.slice a0 cs.length c0)
    have B0 : Hid (Below w.heap.size w (w.alloc (.cells #[.int .i64 W, .int .i64 H, .slice a0 cs.length c0] 24))) := balloc (Below.refl _ _) _
    generalize w.alloc (.cells #[.int .i64 W, .int .i64 H, .slice a0 cs.length c0] 24) = W0 at *
    refine (HOY.out _ W0 (HV.out.below B0.out) (HS.out.below B0.out)).mono ?_
    rintro e w1 ⟨u, rfl, o1, b1⟩
    obtain ⟨au, cu, rfl⟩ := o1.val
    have O1 : Hid _ := o1.sl
    have P1 : Hid _ := P0.out.below b1
    have B1 : Hid (Below w.heap.size w w1) := bthen B0.out b1
    clear o1 b1 P0 B0
    have P2 : Hid _ := P1.out.below (balloc (Below.refl _ _) (.cells #[.int .i64 cs.length, .slice au fs.length cu] 27))
    obtain ⟨p0, p1, p2⟩ := P2.out
    go_wp2_with fail
    have Q2 : Hid _ := box2_new w1 cs.length (.slice au fs.length cu) 27
    have B12 : Hid (Below w1.heap.size w1 (w1.alloc (.cells #[.int .i64 cs.length, .slice au fs.length cu] 27))) := balloc (Below.refl _ _) _
    generalize w1.alloc (.cells #[.int .i64 cs.length, .slice au fs.length cu] 27) = W2 at *
    have O2 : Hid _ := O1.out.below B12.out
    have B2 : Hid (Below w.heap.size w W2) := bthen B1.out B12.out
    obtain ⟨X, hX⟩ : ∃ X, w1.heap.size = X := ⟨_, rfl⟩
    rw [hX] at Q2 ⊢
    clear hX p0 p1 p2 B12 O1 P1 B1
    refine (rgrid_any W H _ cs W2 (HV.out.below B2.out) hlen).mono ?_
    rintro e w3 ⟨rfl, b3⟩
    have P3 : Hid _ := P2.out.below b3
    have Q3 : Hid _ := Q2.out.below b3
    have O3 : Hid _ := O2.out.below b3
    have B3 : Hid (Below w.heap.size w w3) := bthen B2.out b3
    have V3 : Hid _ := HV.out.below B3.out
    rw [HC.out]
    clear b3 P2 Q2 O2 B2
    obtain ⟨p0, p1, p2⟩ := P3.out
    obtain ⟨q0, q1⟩ := Q3.out
    have KP : Hid (∀ w', Below w3.heap.size w3 w' → w'.cell? ⟨w.heap.size, 0, none⟩ = some (.int .i64 W) ∧ w'.cell? ⟨w.heap.size, 1, none⟩ = some (.int .i64 H) ∧ w'.cell? ⟨w.heap.size, 2, none⟩ = some (.slice a0 cs.length c0) ∧ w'.cell? ⟨X, 0, none⟩ = some (.int .i64 cs.length) ∧ w'.cell? ⟨X, 1, none⟩ = some (.slice au fs.length cu)) := fun w' hb => ⟨kept hb P3.out.g0, kept hb P3.out.g1, kept hb P3.out.g2, kept hb Q3.out.g0, kept hb Q3.out.g1⟩
    go_wp2_with fail
    go_region_held3 (fun w' => w'.cell? ⟨w.heap.size, 0, none⟩ = some (.int .i64 W) ∧ w'.cell? ⟨w.heap.size, 1, none⟩ = some (.int .i64 H) ∧ w'.cell? ⟨w.heap.size, 2, none⟩ = some (.slice a0 cs.length c0) ∧ w'.cell? ⟨X, 0, none⟩ = some (.int .i64 cs.length) ∧ w'.cell? ⟨X, 1, none⟩ = some (.slice au fs.length cu)) (first | go_keep | exact KP.out _ BB.out)
      (first
       | (go_at_call 8; refine (HRO.out _ _ ?_).mono ?_; (first | exact V3.out.below (Below.drew (Below.refl _ _)) | exact V3.out.below BB.out); rintro e w4 ⟨u, rfl, o4, b4⟩; obtain ⟨a4, c4, rfl⟩ := o4.val; have O4 : Hid _ := o4.sl; clear o4; have BB : Hid (Below w3.heap.size w3 w4) := (by first | exact bthen (Below.drew (Below.refl _ _)) b4 | exact bthen BB.out b4))
       | (go_at_call 7; refine (sameNet_yes _ _ _ fs _ ?_ ?_ (by omega)).mono ?_; (exact O3.out.below BB.out); (exact O4.out); rintro e w5 ⟨rfl, b5⟩; have BB : Hid (Below w3.heap.size w3 w5) := (by exact bthen BB.out b5))
       | fail)
    all_goals
      go_wp2_with fail
      go_ret
      exact ⟨rfl, bthen B3.out BB.out⟩
  · have hz : (gchk W H cs != 0) = true := by simp [hc]
    have HC : Hid _ := hc
    clear hc
    go_enter Tryd.func3, Tryd.ntmps3
    go_wp2_with fail
    have P0 : Hid _ := box3_start w W H (.slice a0 cs.length c0)
    have B0 : Hid (Below w.heap.size w (w.alloc (.cells #[.int .i64 W, .int .i64 H, .slice a0 cs.length c0] 24))) := balloc (Below.refl _ _) _
    generalize w.alloc (.cells #[.int .i64 W, .int .i64 H, .slice a0 cs.length c0] 24) = W0 at *
    refine (of_bad W H _ cs W0 (HV.out.below B0.out) hlen HC.out).mono ?_
    rintro e w1 ⟨rfl, b1⟩
    have P1 : Hid _ := P0.out.below b1
    have B1 : Hid (Below w.heap.size w w1) := bthen B0.out b1
    clear b1 P0 B0
    have P2 : Hid _ := P1.out.below (balloc (Below.refl _ _) (.cells #[.int .i64 0, .slice none 0 0] 27))
    obtain ⟨p0, p1, p2⟩ := P2.out
    go_wp2_with fail
    have Q2 : Hid _ := box2_new w1 0 (.slice none 0 0) 27
    have B12 : Hid (Below w1.heap.size w1 (w1.alloc (.cells #[.int .i64 0, .slice none 0 0] 27))) := balloc (Below.refl _ _) _
    generalize w1.alloc (.cells #[.int .i64 0, .slice none 0 0] 27) = W2 at *
    have B2 : Hid (Below w.heap.size w W2) := bthen B1.out B12.out
    clear p0 p1 p2 B12 P1 B1
    refine (rgrid_any W H _ cs W2 (HV.out.below B2.out) hlen).mono ?_
    rintro e w3 ⟨rfl, b3⟩
    have B3 : Hid (Below w.heap.size w w3) := bthen B2.out b3
    obtain ⟨q0, q1⟩ := Q2.out.below b3
    clear b3
    go_wp2_with fail
    refine (sameNet_yes 0 _ _ [] w3 (.no _ _ rfl rfl) (.no _ _ rfl rfl) (by simp)).mono ?_
    rintro e w4 ⟨rfl, b4⟩
    have B4 : Hid (Below w.heap.size w w4) := bthen B3.out b4
    clear b4
    go_wp2_with fail
    go_ret
    exact ⟨rfl, B4.out⟩
end Go.Proofs.YtekeajencihfgaaDoor.NGrids
