/-
  Rows of pairs that the calls made for themselves; pairs that are written out; what Of answers of two short lists.
-/
import Derived.Test.YtdgihpegdcoilaaUE
import Derived.Deep.AppendLies
import Derived.Deep.RegionLaw
import Derived.Maps.AppendAt
namespace Go.Proofs.Ytdgihpegdcoilaa.Un
open Go.RowKit
open Uf

/-- The cells of a list of pairs, one behind the other. -/
def flat : List (Int × Int) → List Value
  | [] => []
  | p :: r => .int .i64 p.1 :: .int .i64 p.2 :: flat r
theorem flat_length (ps : List (Int × Int)) : (flat ps).length = ps.length * 2 := by
  induction ps with
  | nil => rfl
  | cons p r ih => simp [flat, ih]; omega
theorem flat_append (a b : List (Int × Int)) : flat (a ++ b) = flat a ++ flat b := by
  induction a with
  | nil => rfl
  | cons p r ih => simp [flat, ih]
theorem flat_get (ps : List (Int × Int)) (i : Nat) (h : i < ps.length) : (flat ps)[i * 2]? = some (.int .i64 (at' ps i).1) ∧ (flat ps)[i * 2 + 1]? = some (.int .i64 (at' ps i).2) := by
  induction ps generalizing i with
  | nil => simp at h
  | cons p r ih =>
    cases i with
    | zero => exact ⟨rfl, rfl⟩
    | succ i =>
      have := ih i (by simpa using h)
      have e1 : (i + 1) * 2 = i * 2 + 1 + 1 := by omega
      have e2 : (i + 1) * 2 + 1 = i * 2 + 1 + 1 + 1 := by omega
      rw [e2, e1]
      simp only [flat, List.getElem?_cons_succ]
      exact this
theorem flat_one (l : List (Int × Int)) : ∀ u ∈ flat l, u.oneCell' = true := by
  induction l with
  | nil => simp [flat]
  | cons p r ih => simp [flat, Value.oneCell']; exact ih
theorem news_flat {w : World} {b off : Nat} {ls : List (Int × Int)} (h : ∀ i, i < ls.length → w.cell? ⟨b, off + i * 2, none⟩ = some (.int .i64 (at' ls i).1) ∧ w.cell? ⟨b, off + i * 2 + 1, none⟩ = some (.int .i64 (at' ls i).2)) :
    ∀ (j : Nat) (u : Value), (flat ls)[j]? = some u → w.cell? ((⟨b, off, none⟩ : Addr).add j) = some u := by
  intro j u hu
  have hadd : (⟨b, off, none⟩ : Addr).add j = ⟨b, off + j, none⟩ := by unfold Addr.add; split <;> simp_all
  have hj : j < (flat ls).length := by
    rcases Nat.lt_or_ge j (flat ls).length with h | h
    · exact h
    · rw [List.getElem?_eq_none h] at hu; cases hu
  rw [flat_length] at hj
  have hi : j / 2 < ls.length := by omega
  obtain ⟨h1, h2⟩ := h (j / 2) hi
  obtain ⟨f1, f2⟩ := flat_get ls (j / 2) hi
  rw [hadd]
  rcases (show j = j / 2 * 2 ∨ j = j / 2 * 2 + 1 by omega) with e | e
  · rw [← e] at f1 h1
    rw [f1] at hu
    rw [h1, hu]
  · rw [← e] at f2
    rw [f2] at hu
    rw [show off + j = off + j / 2 * 2 + 1 by omega, h2, hu]
theorem info34 : (Try.prog.info? 43).map (fun i => (i.zero, i.size, i.bytes)) = some (some (.agg #[.int .i64 0, .int .i64 0]), 2, 16) := by kernel_rfl
theorem info34_parts : ∃ i, Try.prog.info? 43 = some i ∧ i.zero = some (.agg #[.int .i64 0, .int .i64 0]) ∧ i.size = 2 ∧ i.bytes = 16 := by
  obtain ⟨i, hi, hh⟩ := Option.map_eq_some_iff.1 info34
  simp only [Prod.mk.injEq] at hh
  exact ⟨i, hi, hh.1, hh.2.1, hh.2.2⟩
theorem ownBlock_lt {w : World} {base : Nat} {e : TypeId} {size : Nat} {v : Value} {n : Nat} {xs : List Value} (h : w.ownsRow base e size v n xs) : ∀ g, v.ownBlock = some g → base ≤ g ∧ g < w.heap.size := by
  intro g hg
  rcases h.2 with ⟨rfl, _⟩ | ⟨g', cap, cur, rfl, hb, hh, _⟩
  · cases hg
  · simp [Value.ownBlock] at hg
    subst hg
    refine ⟨hb, ?_⟩
    rcases Nat.lt_or_ge g' w.heap.size with hlt | hge
    · exact hlt
    · rw [Array.getElem?_eq_none hge] at hh; cases hh
/-- An owned row, as it is read. -/
theorem owns_slr {w : World} {base n : Nat} {v : Value} {ps : List (Int × Int)} (hn : n = ps.length) (h : w.ownsRow base 43 2 v n (flat ps)) : SlR w v ps := by
  subst hn
  rcases h.2 with ⟨rfl, h0⟩ | ⟨g, cap, cur, rfl, _, h1, h2, h3, h4, h5⟩
  · have : ps = [] := List.length_eq_zero_iff.1 h0
    subst this
    exact .no _ _ rfl rfl
  · refine .row g 0 cap rfl (fun i hi => ?_)
    obtain ⟨f1, f2⟩ := flat_get ps i hi
    have k1 : cur[i * 2]? = some (.int .i64 (at' ps i).1) := by
      rw [← f1, ← h5, List.getElem?_take_of_lt (by omega), Array.getElem?_toList]
    have k2 : cur[i * 2 + 1]? = some (.int .i64 (at' ps i).2) := by
      rw [← f2, ← h5, List.getElem?_take_of_lt (by omega), Array.getElem?_toList]
    rw [Nat.zero_add]
    simp [World.cell?, h1, k1, k2]
theorem owns_val {w : World} {base n : Nat} {v : Value} {xs : List Value} (h : w.ownsRow base 43 2 v n xs) : ∃ a c, v = .slice a n c := by
  rcases h.2 with ⟨rfl, rfl⟩ | ⟨g, cap, cur, rfl, _⟩
  · exact ⟨_, _, rfl⟩
  · exact ⟨_, _, rfl⟩

/-- One pair that is written out. -/
theorem lit_one (w : World) (x y : Int) : SlR (w.alloc (.cells #[.int .i64 x, .int .i64 y] 43)) (.slice (some ⟨w.heap.size, 0, none⟩) 1 1) [(x, y)] := by
  have hn := heap_alloc_new w (.cells #[.int .i64 x, .int .i64 y] 43)
  refine .row _ 0 1 rfl (fun i hi => ?_)
  have : i = 0 := by simpa using hi
  subst this
  exact ⟨by unfold World.cell?; rw [hn]; rfl, by unfold World.cell?; rw [hn]; rfl⟩

theorem lit_two (w : World) : Ur (w.alloc (.cells #[.int .i64 0, .int .i64 0] 3)) w.heap.size 2 (fun _ => 0) := ⟨by rw [heap_alloc_new]; rfl⟩
theorem lit_three (w : World) : Ur (w.alloc (.cells #[.int .i64 0, .int .i64 1, .int .i64 1] 3)) w.heap.size 3 (fun i => if i = 0 then 0 else 1) := ⟨by rw [heap_alloc_new]; rfl⟩

theorem of_two (v : Value) (w : World) (hv : SlR w v [(1, 0)]) :
    Calls Try.prog 12 #[.int .i64 2, v] w fun e w' => ∃ g, e = .returned (.tuple #[.slice (some ⟨g, 0, none⟩) 2 2, .int .i64 0]) ∧ w.heap.size ≤ g ∧ Ur w' g 2 (fun _ => 0) ∧ Below w.heap.size w w' := by
  refine (of_yes 2 v [(1, 0)] w hv (by decide)).mono ?_
  rintro e w' ⟨g, rfl, h1, h2, h3⟩
  refine ⟨g, rfl, h1, h2.congr (fun x hx => ?_), h3⟩
  rcases (show x = 0 ∨ x = 1 by omega) with rfl | rfl <;> decide
theorem of_three (v : Value) (w : World) (hv : SlR w v [(2, 1)]) :
    Calls Try.prog 12 #[.int .i64 3, v] w fun e w' => ∃ g, e = .returned (.tuple #[.slice (some ⟨g, 0, none⟩) 3 3, .int .i64 0]) ∧ w.heap.size ≤ g ∧ Ur w' g 3 (fun i => if i = 0 then 0 else 1) ∧ Below w.heap.size w w' := by
  refine (of_yes 3 v [(2, 1)] w hv (by decide)).mono ?_
  rintro e w' ⟨g, rfl, h1, h2, h3⟩
  refine ⟨g, rfl, h1, h2.congr (fun x hx => ?_), h3⟩
  rcases (show x = 0 ∨ x = 1 ∨ x = 2 by omega) with rfl | rfl | rfl <;> decide

end Go.Proofs.Ytdgihpegdcoilaa.Un
