/-
  Two places and an edge; a net turned, and its costs.
-/
import Derived.Test.YtefikbjjdldomaaDL
import Derived.Test.YtefikbjjdldomaaIE
namespace Go.Proofs.Ytefikbjjdldomaa
open Go.RowKit
open Nm Wm Dm

theorem pn_two : Pn 2 [(0, 1, 5)] := ⟨by omega, by omega, by simp, by simp⟩
theorem nps_two : nps ((2 : Nat) : Int) [(0, 1, 5)] = 0 := by kernel_rfl
theorem isd_two0 : IsD 2 [(0, 1, 5)] 0 (fun i => if i = 0 then 0 else 5) := by
  have hF : far = 1099511627776 := rfl
  refine ⟨rfl, fun v _ => by split <;> omega, fun v _ => by split <;> omega, by simp, fun v hv hne _ => ?_⟩
  obtain rfl : v = 1 := by omega
  exact ⟨(0, 1, 5), by simp, rfl, by simp [hF], by simp⟩
theorem isd_two1 : IsD 2 [(0, 1, 5)] 1 (fun i => if i = 1 then 0 else 1099511627776) := by
  have hF : far = 1099511627776 := rfl
  refine ⟨rfl, fun v _ => by split <;> omega, fun v _ => by split <;> omega, ?_, fun v hv hne hf => ?_⟩
  · intro e he hf
    obtain rfl := List.mem_singleton.1 he
    simp at hf
  · obtain rfl : v = 0 := by omega
    simp at hf
theorem two_d0 {d : Nat → Int} (h : IsD 2 [(0, 1, 5)] 0 d) : lst 2 d = [0, 5] := by
  have h0 := h.eq pn_two isd_two0 (v := 0) (by omega)
  have h1 := h.eq pn_two isd_two0 (v := 1) (by omega)
  simp [lst, List.range_succ, h0, h1]
theorem two_d1 {d : Nat → Int} (h : IsD 2 [(0, 1, 5)] 1 d) : lst 2 d = [1099511627776, 0] := by
  have h0 := h.eq pn_two isd_two1 (v := 0) (by omega)
  have h1 := h.eq pn_two isd_two1 (v := 1) (by omega)
  simp [lst, List.range_succ, h0, h1]

theorem nps_of {n : Int} {es : List E} (hg : Gn n es) (h : ∀ e ∈ es, 1 ≤ e.2.2) : nps n es = 0 := nps_ok (nck_zero.2 hg) (fun _ hk => h _ (mem_at hk))
theorem nps_turn {n : Int} {es : List E} (h : nps n es = 0) : nps n (es.map trn) = 0 := by
  obtain ⟨hg, hp, _⟩ := pn_of h
  refine nps_of (gn_turn hg) (fun e he => ?_)
  obtain ⟨x, hx, rfl⟩ := List.mem_map.1 he
  have := hp.ok x hx
  exact this.2.2.2.2.1

set_option maxRecDepth 100000 in
theorem two_any (w : World) : Calls Try.prog 21 #[] w fun e w' => ∃ X, e = .returned (.agg #[.int .i64 2, .slice (some ⟨X, 0, none⟩) 1 1]) ∧ SlE w' (.slice (some ⟨X, 0, none⟩) 1 1) [(0, 1, 5)] ∧ Below w.heap.size w w' := by
  go_enter Try.func21, Try.ntmps21
  go_wp2_with fail
  have E2 : Hid _ := lit_edges (w.alloc (.cells #[.int .i64 2, .slice (some ⟨w.heap.size + 1, 0, none⟩) 1 1] 24)) [(0, 1, 5)] #[.int .i64 0, .int .i64 1, .int .i64 5] 1 rfl rfl
  have e : (w.alloc (.cells #[.int .i64 2, .slice (some ⟨w.heap.size + 1, 0, none⟩) 1 1] 24)).heap.size = w.heap.size + 1 := by simp
  rw [e] at E2
  refine bodyPost_ret (v := .agg #[.int .i64 2, .slice (some ⟨w.heap.size + 1, 0, none⟩) 1 1]) ?_ rfl ⟨w.heap.size + 1, rfl, ?_, ?_⟩
  · simp [results, Try.results21, go_sem]
  · exact E2.out
  · exact balloc (balloc (Below.refl _ _) _) _

/-- Dist of the two places, from the first, and from the second. -/
theorem dist_two0 (v : Value) (w : World) (hv : SlE w v [(0, 1, 5)]) : Calls Try.prog 22 #[.agg #[.int .i64 2, v], .int .i64 0] w fun e w' => ∃ G, e = .returned (.tuple #[.slice (some ⟨G, 0, none⟩) 2 2, .int .i64 0]) ∧ SlI w' (.slice (some ⟨G, 0, none⟩) 2 2) [0, 5] ∧ Below w.heap.size w w' := by
  refine (dist_yes 2 0 v [(0, 1, 5)] w hv nps_two pn_two (by omega)).mono ?_
  rintro e w' ⟨G, d, rfl, _, ur, hd, b⟩
  have := ur.sl
  rw [two_d0 hd] at this
  exact ⟨G, rfl, this, b⟩
theorem dist_two1 (v : Value) (w : World) (hv : SlE w v [(0, 1, 5)]) : Calls Try.prog 22 #[.agg #[.int .i64 2, v], .int .i64 1] w fun e w' => ∃ G, e = .returned (.tuple #[.slice (some ⟨G, 0, none⟩) 2 2, .int .i64 0]) ∧ SlI w' (.slice (some ⟨G, 0, none⟩) 2 2) [1099511627776, 0] ∧ Below w.heap.size w w' := by
  refine (dist_yes 2 1 v [(0, 1, 5)] w hv nps_two pn_two (by omega)).mono ?_
  rintro e w' ⟨G, d, rfl, _, ur, hd, b⟩
  have := ur.sl
  rw [two_d1 hd] at this
  exact ⟨G, rfl, this, b⟩
end Go.Proofs.Ytefikbjjdldomaa
