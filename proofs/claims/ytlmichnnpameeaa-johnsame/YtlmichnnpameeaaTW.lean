/-
  Two places and an edge; what it costs.
-/
import Derived.Test.YtlmichnnpameeaaBD
import Derived.Test.YtlmichnnpameeaaIE
namespace Go.Proofs.Ytlmichnnpameeaa
open Go.RowKit
open Nm Wm Dm Bm

theorem rnt_two : Rnt 2 [(0, 1, 5)] := ⟨by omega, by omega, by simp, by simp⟩
theorem two_rest : (rns [(0, 1, 5)] (Dm.start 0) 2).s = -1 := by decide
theorem two_lst : lst 2 (rns [(0, 1, 5)] (Dm.start 0) 2).d = [0, 5] := by decide

set_option maxRecDepth 100000 in
theorem two_any (w : World) : Calls Try.prog 21 #[] w fun e w' => ∃ X, e = .returned (.agg #[.int .i64 2, .slice (some ⟨X, 0, none⟩) 1 1]) ∧ SlE w' (.slice (some ⟨X, 0, none⟩) 1 1) [(0, 1, 5)] ∧ Below w.heap.size w w' := by
  go_enter Try.func21, Try.ntmps21
  go_wp2_with fail
  have E2 : Hid _ := lit_edges (w.alloc (.cells #[.int .i64 2, .slice (some ⟨w.heap.size + 1, 0, none⟩) 1 1] 24)) [(0, 1, 5)] #[.int .i64 0, .int .i64 1, .int .i64 5] 1 rfl rfl
  have e : (w.alloc (.cells #[.int .i64 2, .slice (some ⟨w.heap.size + 1, 0, none⟩) 1 1] 24)).heap.size = w.heap.size + 1 := by simp
  rw [e] at E2
  refine bodyPost_ret (v := .agg #[.int .i64 2, .slice (some ⟨w.heap.size + 1, 0, none⟩) 1 1]) ?_ rfl ⟨w.heap.size + 1, rfl, ?_, ?_⟩
  · simp [results, Try.results21, go_sem]
  · exact E2.out
  · exact balloc (balloc (Below.refl _ _) _) _
theorem bdist_two (v : Value) (w : World) (hv : SlE w v [(0, 1, 5)]) : Calls Try.prog 22 #[.agg #[.int .i64 2, v], .int .i64 0] w fun e w' => ∃ G, e = .returned (.tuple #[.slice (some ⟨G, 0, none⟩) 2 2, .int .i64 0]) ∧ SlI w' (.slice (some ⟨G, 0, none⟩) 2 2) [0, 5] ∧ Below w.heap.size w w' := by
  refine (bdist_yes 2 0 v [(0, 1, 5)] w hv rnt_two (by omega) two_rest).mono ?_
  rintro e w' ⟨G, rfl, _, ur, b⟩
  have := ur.sl
  rw [two_lst] at this
  exact ⟨G, rfl, this, b⟩
/-- Whatever is handed in, Dist comes back. -/
structure Bk2 (e : Ending) : Prop where
  is : ∃ a m c k, e = .returned (.tuple #[.slice a m c, .int .i64 k])
theorem bdist_back (n s : Int) (v : Value) (es : List E) (w : World) (hv : SlE w v es) (hlen : es.length ≤ 9223372036854775807) :
    Calls Try.prog 22 #[.agg #[.int .i64 n, v], .int .i64 s] w fun e w' => Bk2 e ∧ Below w.heap.size w w' := by
  by_cases hc : nck n es = 0
  · by_cases hp : plc n s = true
    · obtain ⟨hb, hn⟩ := bn_of hc
      have hp' := of_decide_eq_true hp
      obtain ⟨a, rfl⟩ := Int.eq_ofNat_of_zero_le hp'.1
      rw [← hn] at hp' ⊢
      have ha : a < n.toNat := by omega
      by_cases hs : (rns es (Dm.start a) n.toNat).s = -1
      · refine (bdist_yes n.toNat a v es w hv hb ha hs).mono ?_
        rintro e w' ⟨G, rfl, _, _, b⟩
        exact ⟨⟨_, _, _, _, rfl⟩, b⟩
      · refine (bdist_no n.toNat a v es w hv hb ha hs).mono ?_
        rintro e w' ⟨rfl, b⟩
        exact ⟨⟨_, _, _, _, rfl⟩, b⟩
    · refine (bdist_arg n s v es w hv hlen hc (by simpa using hp)).mono ?_
      rintro e w' ⟨rfl, b⟩
      exact ⟨⟨_, _, _, _, rfl⟩, b⟩
  · refine (bdist_net n s v es w hv hlen hc).mono ?_
    rintro e w' ⟨rfl, b⟩
    exact ⟨⟨_, _, _, _, rfl⟩, b⟩
end Go.Proofs.Ytlmichnnpameeaa
