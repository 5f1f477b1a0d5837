/-
  The law HeurChecks.
-/
import Derived.Test.YtkbebdanpgaehaaED
import Derived.Test.YtkbebdanpgaehaaOpenN
namespace Go.Proofs.Ytkbebdanpgaehaa.HChecks
open Go.RowKit
open Nm Wm Dm

theorem lk_gn {n t : Int} {es : List E} (h : lk n es [t] = 0) : ∃ N s : Nat, n = N ∧ t = s ∧ s < N ∧ Pn N es := by
  obtain ⟨h1, h2⟩ := lk_zero h
  obtain ⟨_, hp, hn⟩ := pn_of h1
  have := List.all_eq_true.1 h2 t (by simp)
  obtain ⟨s, rfl, hs⟩ := plc_nat this
  exact ⟨n.toNat, s, hn.symm, rfl, by omega, hp⟩
/-- Check and Guess answer the same, whatever is handed in. -/
theorem hcheck_any (n t : Int) (v u : Value) (es : List E) (h : List Int) (w : World) (hv : SlE w v es) (hu : SlI w u h) (hlen : es.length ≤ 9223372036854775807) (hhl : h.length ≤ 9223372036854775807) :
    Calls Try.prog 10 #[.agg #[.int .i64 n, v], .int .i64 t, u] w fun e w' => e = .returned (.int .i64 (gus n es t h)) ∧ Below w.heap.size w w' := by
  by_cases hc : lk n es [t] = 0
  · obtain ⟨N, s, rfl, rfl, hs, hp⟩ := lk_gn hc
    exact hcheck_in N s v u es h w hv hu hhl hp hs hc
  · exact hcheck_look n t v u es h w hv hlen hc
theorem rguess_any (n t : Int) (v u : Value) (es : List E) (h : List Int) (w : World) (hv : SlE w v es) (hu : SlI w u h) (hlen : es.length ≤ 9223372036854775807) :
    Calls Try.prog 11 #[.agg #[.int .i64 n, v], .int .i64 t, u] w fun e w' => e = .returned (.int .i64 (gus n es t h)) ∧ Below w.heap.size w w' := by
  by_cases hc : lk n es [t] = 0
  · obtain ⟨N, s, rfl, rfl, hs, hp⟩ := lk_gn hc
    exact rguess_in N s v u es h w hv hu hp hs hc
  · exact rguess_look n t v u es h w hv hu hlen hc
set_option maxRecDepth 100000 in
set_option maxHeartbeats 8000000 in
theorem walk (n t : Int) (v u : Value) (es : List E) (h : List Int) (w : World) (hv : SlE w v es) (hu : SlI w u h) (hlen : es.length ≤ 9223372036854775807) (hhl : h.length ≤ 9223372036854775807) :
    Calls Try.prog 3 #[.agg #[.int .i64 n, v], .int .i64 t, u] w fun e w' => e = .returned (.bool true) ∧ Below w.heap.size w w' := by
  obtain ⟨a0, c0, rfl⟩ := hv.val
  obtain ⟨a1, c1, rfl⟩ := hu.val
  have HV : Hid _ := hv
  have HU : Hid _ := hu
  clear hv hu
  go_enter Try.func3, Try.ntmps3
  have P0 : Hid _ := box2_new w n (.slice a0 es.length c0) 24
  have B0 : Hid (Below w.heap.size w (w.alloc (.cells #[.int .i64 n, .slice a0 es.length c0] 24))) := balloc (Below.refl _ _) _
  go_wp2_with fail
  generalize w.alloc (.cells #[.int .i64 n, .slice a0 es.length c0] 24) = W0 at *
  obtain ⟨p0, p1⟩ := P0.out
  have V0 : Hid _ := HV.out.below B0.out
  have U0 : Hid _ := HU.out.below B0.out
  go_region_held3 (fun w' => w'.cell? ⟨w.heap.size, 0, none⟩ = some (.int .i64 n) ∧ w'.cell? ⟨w.heap.size, 1, none⟩ = some (.slice a0 es.length c0)) (first | exact KEEP.out | go_keep)
    (first
     | (go_at_call 10; refine (hcheck_any n t _ _ es h _ (by first | exact V0.out.below (Below.refl _ _) | exact V0.out.below (Below.drew (Below.refl _ _)) | exact V0.out.below (Below.drew (Below.drew (Below.refl _ _))) | exact V0.out.below (Below.drew (Below.drew (Below.drew (Below.refl _ _)))) | exact V0.out.below (Below.drew (Below.drew (Below.drew (Below.drew (Below.refl _ _))))) | exact V0.out.below (Below.drew (Below.drew (Below.drew (Below.drew (Below.drew (Below.refl _ _)))))) | exact V0.out.below (Below.drew (Below.drew (Below.drew (Below.drew (Below.drew (Below.drew (Below.refl _ _))))))) | exact V0.out.below (bdrewN (Below.refl _ _) _)) (by first | exact U0.out.below (Below.refl _ _) | exact U0.out.below (Below.drew (Below.refl _ _)) | exact U0.out.below (Below.drew (Below.drew (Below.refl _ _))) | exact U0.out.below (Below.drew (Below.drew (Below.drew (Below.refl _ _)))) | exact U0.out.below (Below.drew (Below.drew (Below.drew (Below.drew (Below.refl _ _))))) | exact U0.out.below (Below.drew (Below.drew (Below.drew (Below.drew (Below.drew (Below.refl _ _)))))) | exact U0.out.below (Below.drew (Below.drew (Below.drew (Below.drew (Below.drew (Below.drew (Below.refl _ _))))))) | exact U0.out.below (bdrewN (Below.refl _ _) _)) hlen hhl).mono ?_; rintro e w1 ⟨rfl, b1⟩; have B1 : Hid (Below W0.heap.size W0 w1) := (by first | exact bthen (Below.refl _ _) b1 | exact bthen (Below.drew (Below.refl _ _)) b1 | exact bthen (Below.drew (Below.drew (Below.refl _ _))) b1 | exact bthen (Below.drew (Below.drew (Below.drew (Below.refl _ _)))) b1 | exact bthen (Below.drew (Below.drew (Below.drew (Below.drew (Below.refl _ _))))) b1 | exact bthen (Below.drew (Below.drew (Below.drew (Below.drew (Below.drew (Below.refl _ _)))))) b1 | exact bthen (Below.drew (Below.drew (Below.drew (Below.drew (Below.drew (Below.drew (Below.refl _ _))))))) b1 | exact bthen (bdrewN (Below.refl _ _) _) b1); have KEEP : Hid (w1.cell? ⟨w.heap.size, 0, none⟩ = some (.int .i64 n) ∧ w1.cell? ⟨w.heap.size, 1, none⟩ = some (.slice a0 es.length c0)) := (by exact ⟨kept B1.out p0, kept B1.out p1⟩))
     | (go_at_call 11; refine (rguess_any n t _ _ es h _ (by first | exact V0.out.below (B1.out) | exact V0.out.below (Below.drew (B1.out)) | exact V0.out.below (Below.drew (Below.drew (B1.out))) | exact V0.out.below (Below.drew (Below.drew (Below.drew (B1.out)))) | exact V0.out.below (Below.drew (Below.drew (Below.drew (Below.drew (B1.out))))) | exact V0.out.below (Below.drew (Below.drew (Below.drew (Below.drew (Below.drew (B1.out)))))) | exact V0.out.below (Below.drew (Below.drew (Below.drew (Below.drew (Below.drew (Below.drew (B1.out))))))) | exact V0.out.below (bdrewN (B1.out) _)) (by first | exact U0.out.below (B1.out) | exact U0.out.below (Below.drew (B1.out)) | exact U0.out.below (Below.drew (Below.drew (B1.out))) | exact U0.out.below (Below.drew (Below.drew (Below.drew (B1.out)))) | exact U0.out.below (Below.drew (Below.drew (Below.drew (Below.drew (B1.out))))) | exact U0.out.below (Below.drew (Below.drew (Below.drew (Below.drew (Below.drew (B1.out)))))) | exact U0.out.below (Below.drew (Below.drew (Below.drew (Below.drew (Below.drew (Below.drew (B1.out))))))) | exact U0.out.below (bdrewN (B1.out) _)) hlen).mono ?_; rintro e w2 ⟨rfl, b2⟩; have B2 : Hid (Below W0.heap.size W0 w2) := (by first | exact bthen (B1.out) b2 | exact bthen (Below.drew (B1.out)) b2 | exact bthen (Below.drew (Below.drew (B1.out))) b2 | exact bthen (Below.drew (Below.drew (Below.drew (B1.out)))) b2 | exact bthen (Below.drew (Below.drew (Below.drew (Below.drew (B1.out))))) b2 | exact bthen (Below.drew (Below.drew (Below.drew (Below.drew (Below.drew (B1.out)))))) b2 | exact bthen (Below.drew (Below.drew (Below.drew (Below.drew (Below.drew (Below.drew (B1.out))))))) b2 | exact bthen (bdrewN (B1.out) _) b2); have KEEP : Hid (w2.cell? ⟨w.heap.size, 0, none⟩ = some (.int .i64 n) ∧ w2.cell? ⟨w.heap.size, 1, none⟩ = some (.slice a0 es.length c0)) := (by exact ⟨kept B2.out p0, kept B2.out p1⟩))
     | fail)
  all_goals
    go_wp2_with fail
    go_ret
    exact ⟨ret_bool (by simp), bthen B0.out B2.out⟩
end Go.Proofs.Ytkbebdanpgaehaa.HChecks
