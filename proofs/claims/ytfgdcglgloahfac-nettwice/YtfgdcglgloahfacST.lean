/-
  slices.Sort of numbers that the calls made for themselves.
-/
import Derived.Test.YtfgdcglgloahfacSS
import Derived.Test.YtfgdcglgloahfacBA
namespace Go.Proofs.Ytfgdcglgloahfac
open Go.RowKit Go.Sort

theorem sort_own {w : World} {base : Nat} {v : Value} {cs : List Int} (h : Is w base v cs) (hl : cs.length ≤ 1000000) :
    Calls Try.prog 22 #[v] w fun e w' => e = .returned (.tuple #[]) ∧ SlI w' v (cs.mergeSort fun x y => decide (x ≤ y)) ∧ Below base w w' := by
  rcases h.own.2 with ⟨rfl, h0⟩ | ⟨g, cap, cur, rfl, hb, h1, h2, h3, h4, h5⟩
  · obtain rfl : cs = [] := List.length_eq_zero_iff.1 h0
    refine (Try.slices_Sort_int_none none 0 w).mono ?_
    rintro e w' ⟨rfl, rfl⟩
    exact ⟨rfl, .no _ _ rfl (by simp), Below.refl _ _⟩
  · by_cases h0 : cs.length = 0
    · obtain rfl : cs = [] := List.length_eq_zero_iff.1 h0
      refine (Try.slices_Sort_int_none (some ⟨g, 0, none⟩) cap w).mono ?_
      rintro e w' ⟨rfl, rfl⟩
      exact ⟨rfl, .no _ _ rfl (by simp), Below.refl _ _⟩
    · have hlt : g < w.heap.size := by
        rcases Nat.lt_or_ge g w.heap.size with hlt | hge
        · exact hlt
        · rw [Array.getElem?_eq_none hge] at h1; cases h1
      have hH : Holds (Value.int .i64) w g 0 cs.toArray := by
        intro j hj
        have hj' : j < cs.length := by simpa using hj
        have e : (cs.map (fun z => Value.int .i64 z))[j]? = some (.int .i64 cs[j]) := by simp [hj']
        have hc : cur[j]? = some (.int .i64 cs[j]) := by
          rw [← e, ← h5, List.getElem?_take_of_lt (by omega), Array.getElem?_toList]
        rw [Nat.zero_add]
        refine ⟨?_, ?_⟩
        · simp [World.cell?, h1, hc, hj']
        · simp [World.frozen?, h1]
      refine (Try.slices_Sort_int g 0 cap cs w hH hlt (by omega)).mono ?_
      rintro e w' ⟨rfl, n, os, rfl⟩
      have hml : (cs.mergeSort fun x y => decide (x ≤ y)).length = cs.length := List.length_mergeSort _
      refine ⟨rfl, ?_, ?_⟩
      · refine .row g 0 cap (by rw [hml]) (fun i hi => ?_) (by rw [hml]; exact h2)
        have hsz : (cs.mergeSort fun x y => decide (x ≤ y)).toArray.size = cs.toArray.size := by simp
        have := (holds_grow (Value.int .i64) _ os g 0 _ (by simpa using hlt) (holds_putRow (Value.int .i64) (Sort.ahead w n) g 0 cs.toArray (cs.mergeSort fun x y => decide (x ≤ y)).toArray (holds_ahead _ w n g 0 _ hH) hsz) i (by simpa using hi)).1
        rw [this]
        simp
      · refine ⟨rfl, rfl, rfl, ?_, fun k hk => ?_⟩
        · simp
        · rw [heap_grow_old _ _ (by simp; omega)]
          show (mapBlock (Sort.ahead w n) g _).heap[k]? = _
          unfold mapBlock
          rw [Array.getElem?_modify, if_neg (by omega)]
          rfl
end Go.Proofs.Ytfgdcglgloahfac
