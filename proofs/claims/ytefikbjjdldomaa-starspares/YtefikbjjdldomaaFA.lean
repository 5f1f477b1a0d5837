/-
  Contracts: the document's Guess, whatever is handed in; and what it says of a search's input.
-/
import Derived.Test.YtefikbjjdldomaaED
import Derived.Test.YtefikbjjdldomaaFL
import Derived.Test.YtefikbjjdldomaaIE
namespace Go.Proofs.Ytefikbjjdldomaa
open Go.RowKit
open Nm Wm Dm

theorem gs_any (n t : Int) (v u : Value) (es : List E) (h : List Int) (w : World) (hv : SlE w v es) (hu : SlI w u h) (hlen : es.length ≤ 9223372036854775807) :
    Calls Try.prog 36 #[.agg #[.int .i64 n, v], .int .i64 t, u] w fun e w' => e = .returned (.int .i64 (gus n es t h)) ∧ Below w.heap.size w w' := by
  by_cases hc : lk n es [t] = 0
  · obtain ⟨N, s, rfl, rfl, hs, hp⟩ := gs_gn hc
    exact rguess_in N s v u es h w hv hu hp hs hc
  · exact rguess_look n t v u es h w hv hu hlen hc
set_option maxRecDepth 100000 in
set_option maxHeartbeats 8000000 in
/-- The document's SearchLook, whatever is handed in. -/
theorem rslook_any (n s t : Int) (v u : Value) (es : List E) (h : List Int) (w : World) (hv : SlE w v es) (hu : SlI w u h) (hlen : es.length ≤ 9223372036854775807) :
    Calls Try.prog 12 #[.agg #[.int .i64 n, v], .int .i64 s, .int .i64 t, u] w fun e w' => e = .returned (.int .i64 (sls n es s t h)) ∧ Below w.heap.size w w' := by
  obtain ⟨a0, c0, rfl⟩ := hv.val
  obtain ⟨a1, c1, rfl⟩ := hu.val
  have HV : Hid _ := hv
  have HU : Hid _ := hu
  clear hv hu
  go_enter Try.func12, Try.ntmps12
  go_wp2_with fail
  have hz0 : (w.alloc (.cells #[.int .i64 n, .slice a0 es.length c0] 24)).heap.size = w.heap.size + 1 := by simp
  have B0 : Hid (Below w.heap.size w (w.alloc (.cells #[.int .i64 n, .slice a0 es.length c0] 24))) := balloc (Below.refl _ _) _
  have P0 : Hid _ := box2_new w (n : Int) (.slice a0 es.length c0) 24
  generalize w.alloc (.cells #[.int .i64 n, .slice a0 es.length c0] 24) = W0 at *
  have L1 : Hid _ := lit_nums W0 [s, t] #[.int .i64 s, .int .i64 t] 2 rfl rfl
  rw [hz0] at L1
  have B1 : Hid (Below w.heap.size w (W0.alloc (.cells #[.int .i64 s, .int .i64 t] 3))) := balloc B0.out _
  have P1 : Hid _ := P0.out.below (balloc (Below.refl _ _) (.cells #[.int .i64 s, .int .i64 t] 3))
  generalize W0.alloc (.cells #[.int .i64 s, .int .i64 t] 3) = W1 at *
  clear hz0 P0 B0
  refine (rlook_any n _ _ es [s, t] W1 (HV.out.below B1.out) L1.out hlen (by simp)).mono ?_
  rintro e w2 ⟨rfl, b2⟩
  have B2 : Hid (Below w.heap.size w w2) := bthen B1.out b2
  obtain ⟨p0, p1⟩ := P1.out.below b2
  clear b2 P1
  by_cases hc : lk n es [s, t] = 0
  · have HE : Hid (sls n es s t h = gus n es t h) := by unfold Hid sls; rw [if_neg (by simp [hc])]
    rw [hc]
    clear hc
    go_wp2_with fail
    refine (gs_any n t _ _ es h w2 (HV.out.below B2.out) (HU.out.below B2.out) hlen).mono ?_
    rintro e w3 ⟨rfl, b3⟩
    go_wp2_with fail
    go_ret
    exact ⟨ret_int HE.out.symm, bthen B2.out b3⟩
  · have HE : Hid (sls n es s t h = lk n es [s, t]) := by unfold Hid sls; rw [if_pos hc]
    have hz : (lk n es [s, t] != 0) = true := by simp [hc]
    clear hc
    go_wp2_with fail
    go_ret
    exact ⟨ret_int HE.out.symm, B2.out⟩
end Go.Proofs.Ytefikbjjdldomaa
