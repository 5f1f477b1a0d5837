/-
  heur.Of of two places and an edge; of what is handed in.
-/
import Derived.Test.YtkbebdanpgaehaaEN
import Derived.Test.YtkbebdanpgaehaaTW
namespace Go.Proofs.Ytkbebdanpgaehaa
open Go.RowKit
open Nm Wm Dm

theorem mrk_two0 : mrk ((2 : Nat) : Int) [(0, 1, 5)] [0] = 0 := by kernel_rfl
theorem mrk_two1 : mrk ((2 : Nat) : Int) [(0, 1, 5)] [] = 0 := by kernel_rfl
theorem lst_two0 : lst 2 (grt 2 [(0, 1, 5)] [0] 1) = [5, 0] := by kernel_rfl
theorem lst_two1 : lst 2 (grt 2 [(0, 1, 5)] [] 1) = [0, 0] := by kernel_rfl
theorem of_two0 (v u : Value) (w : World) (hv : SlE w v [(0, 1, 5)]) (hu : SlI w u [0]) : Calls Try.prog 18 #[.agg #[.int .i64 2, v], u, .int .i64 1] w fun e w' => ∃ G, e = .returned (.tuple #[.slice (some ⟨G, 0, none⟩) 2 2, .int .i64 0]) ∧ SlI w' (.slice (some ⟨G, 0, none⟩) 2 2) [5, 0] ∧ Below w.heap.size w w' :=
  (of_yes 2 1 v u [(0, 1, 5)] [0] w hv hu (by simp) (by simp) mrk_two0 (by omega)).mono fun _ _ ⟨G, h1, h2, h3⟩ => ⟨G, h1, by have := h2.sl; rw [lst_two0] at this; exact this, h3⟩
theorem of_two1 (v u : Value) (w : World) (hv : SlE w v [(0, 1, 5)]) (hu : SlI w u []) : Calls Try.prog 18 #[.agg #[.int .i64 2, v], u, .int .i64 1] w fun e w' => ∃ G, e = .returned (.tuple #[.slice (some ⟨G, 0, none⟩) 2 2, .int .i64 0]) ∧ SlI w' (.slice (some ⟨G, 0, none⟩) 2 2) [0, 0] ∧ Below w.heap.size w w' :=
  (of_yes 2 1 v u [(0, 1, 5)] [] w hv hu (by simp) (by simp) mrk_two1 (by omega)).mono fun _ _ ⟨G, h1, h2, h3⟩ => ⟨G, h1, by have := h2.sl; rw [lst_two1] at this; exact this, h3⟩
theorem lk_at {N t : Nat} {es : List E} (h : nps N es = 0) (ht : t < N) : lk N es [(t : Int)] = 0 := by
  refine lk_ok h (fun k hk => ?_)
  have hk0 : k = 0 := by simpa using hk
  subst hk0
  exact plc_yes (by simp) (by simp; omega)
/-- What is wrong with what Of is handed. -/
def ofc (n : Int) (es : List E) (p : List Int) (t : Int) : Int := if mrk n es p ≠ 0 then mrk n es p else if plc n t = false then 1 else 0
theorem ofc_zero {n t : Int} {es : List E} {p : List Int} (h : ofc n es p t = 0) : ∃ N s : Nat, n = N ∧ t = s ∧ s < N ∧ mrk N es p = 0 := by
  unfold ofc at h
  by_cases hc : mrk n es p = 0
  · rw [if_neg (by simp [hc])] at h
    obtain ⟨M, rfl, _⟩ := mrk_good hc
    cases hp : plc (M : Int) t
    · rw [if_pos hp] at h; cases h
    · obtain ⟨s, rfl, hs⟩ := plc_nat hp
      exact ⟨M, s, rfl, rfl, by omega, hc⟩
  · rw [if_pos hc] at h; exact absurd h hc
theorem of_no (n t : Int) (v u : Value) (es : List E) (p : List Int) (w : World) (hv : SlE w v es) (hu : SlI w u p) (hlen : es.length ≤ 9223372036854775807) (hl : p.length ≤ 9223372036854775807) (hc : ofc n es p t ≠ 0) :
    Calls Try.prog 18 #[.agg #[.int .i64 n, v], u, .int .i64 t] w fun e w' => e = .returned (.tuple #[.slice none 0 0, .int .i64 (ofc n es p t)]) ∧ Below w.heap.size w w' := by
  by_cases hm : mrk n es p = 0
  · obtain ⟨M, rfl, _⟩ := mrk_good hm
    cases hp : plc (M : Int) t
    · have e : ofc M es p t = 1 := by unfold ofc; rw [if_neg (by simp [hm]), if_pos hp]
      rw [e]; exact of_arg M t v u es p w hv hu hlen hl hm hp
    · exact absurd (by unfold ofc; rw [if_neg (by simp [hm]), if_neg (by simp [hp])]) hc
  · have e : ofc n es p t = mrk n es p := by unfold ofc; rw [if_pos hm]
    rw [e]; exact of_marks n t v u es p w hv hu hlen hl hm
end Go.Proofs.Ytkbebdanpgaehaa
