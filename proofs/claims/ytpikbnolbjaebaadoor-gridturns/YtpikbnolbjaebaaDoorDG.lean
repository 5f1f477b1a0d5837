/-
  What Moves answers, whatever it is given; what it answers of two cells.
-/
import Derived.Test.YtpikbnolbjaebaaDoorDF
namespace Go.Proofs.YtpikbnolbjaebaaDoor
open Go.RowKit
open Gm

/-- Moves' answer, whatever it is given. -/
def Ans (w : World) (W H n : Int) (cs : List Int) (u : Value) (z : Int) : Prop :=
  (z ≠ 0 ∧ u = .slice none 0 0) ∨ (z = 0 ∧ Gd W H cs ∧ 0 ≤ n ∧ n < (cs.length : Int) ∧ SlE w u (moves (cl cs W H) W (n % W) (n / W)))
theorem Ans.below {w w' : World} {W H n : Int} {cs : List Int} {u : Value} {z : Int} (h : Ans w W H n cs u z) (hb : Below w.heap.size w w') : Ans w' W H n cs u z := by
  rcases h with h | ⟨h1, h2, h3, h4, h5⟩
  · exact .inl h
  · exact .inr ⟨h1, h2, h3, h4, h5.below hb⟩
theorem moves_gen (W H n : Int) (v : Value) (cs : List Int) (w : World) (hv : SlI w v cs) (hlen : cs.length ≤ 9223372036854775807) (hs : Steps w) :
    Calls Tryd.prog 6 #[.agg #[.int .i64 W, .int .i64 H, v], .int .i64 n] w fun e w' => ∃ u z, e = .returned (.tuple #[u, .int .i64 z]) ∧ Ans w' W H n cs u z ∧ Below w.heap.size w w' := by
  by_cases hc : gchk W H cs = 0
  · by_cases ha : n < 0 ∨ (cs.length : Int) ≤ n
    · refine (moves_at W H n v cs w hv hc ha).mono ?_
      rintro e w' ⟨rfl, hb⟩
      exact ⟨_, _, rfl, .inl ⟨by decide, rfl⟩, hb⟩
    · obtain ⟨m, rfl⟩ := Int.eq_ofNat_of_zero_le (show 0 ≤ n by omega)
      refine (moves_yes W H m v cs w hv hc (by omega) hs).mono ?_
      rintro e w' ⟨u, rfl, he, hb⟩
      exact ⟨_, _, rfl, .inr ⟨rfl, gchk_zero hc, by omega, by omega, he.sl⟩, hb⟩
  · refine (moves_bad W H n v cs w hv hlen hc).mono ?_
    rintro e w' ⟨rfl, hb⟩
    exact ⟨_, _, rfl, .inl ⟨hc, rfl⟩, hb⟩
theorem Gd.chk {W H : Int} {cs : List Int} (h : Gd W H cs) : gchk W H cs = 0 :=
  gchk_good (decide_eq_true ⟨h.w1, h.w8⟩) (decide_eq_true ⟨h.h1, h.h8⟩) h.len (fun k hk => decide_eq_true (h.cell k hk))
/-- .. of ground as it should be, from a cell that is there. -/
theorem moves_ok (W H n : Int) (v : Value) (cs : List Int) (w : World) (hv : SlI w v cs) (hg : Gd W H cs) (h0 : 0 ≤ n) (hn : n < (cs.length : Int)) (hs : Steps w) :
    Calls Tryd.prog 6 #[.agg #[.int .i64 W, .int .i64 H, v], .int .i64 n] w fun e w' => ∃ u, e = .returned (.tuple #[u, .int .i64 0]) ∧ SlE w' u (moves (cl cs W H) W (n % W) (n / W)) ∧ Below w.heap.size w w' := by
  obtain ⟨m, rfl⟩ := Int.eq_ofNat_of_zero_le h0
  refine (moves_yes W H m v cs w hv hg.chk (by omega) hs).mono ?_
  rintro e w' ⟨u, rfl, he, hb⟩
  exact ⟨u, rfl, he.sl, hb⟩

theorem moves_length (c : Int → Int → Int) (W x y : Int) : (moves c W x y).length ≤ 8 := by
  unfold moves; split
  · simp
  · exact mvs_length c W x y 8
theorem at3_mem (es : List (Int × Int × Int)) (i : Nat) (h : i < es.length) : at3 es i ∈ es := by
  simp [at3, List.getD_eq_getElem?_getD, List.getElem?_eq_getElem h]

/-- Two cells that are written out. -/
theorem lit_cells {w : World} {B : Nat} (hB : B = w.heap.size) : SlI (w.alloc (.cells #[.int .i64 1, .int .i64 2] 3)) (.slice (some ⟨B, 0, none⟩) 2 2) [1, 2] := by
  subst hB
  refine .row w.heap.size 0 2 rfl (fun i hi => ?_)
  rcases (show i = 0 ∨ i = 1 by simp at hi; omega) with rfl | rfl
  · exact cell_new w _ _ 0 _ rfl
  · exact cell_new w _ _ 1 _ rfl
/-- One edge that is written out. -/
theorem lit_edge {w : World} {B : Nat} (hB : B = w.heap.size) (x y z : Int) : SlE (w.alloc (.cells #[.int .i64 x, .int .i64 y, .int .i64 z] 32)) (.slice (some ⟨B, 0, none⟩) 1 1) [(x, y, z)] := by
  subst hB
  refine .row w.heap.size 1 rfl (fun i hi => ?_)
  have : i = 0 := by simpa using hi
  subst this
  exact ⟨cell_new w _ _ 0 _ rfl, cell_new w _ _ 1 _ rfl, cell_new w _ _ 2 _ rfl⟩
theorem gd_two : Gd 2 1 [1, 2] := ⟨by decide, by decide, by decide, by decide, by decide, fun k hk => by
  rcases (show k = 0 ∨ k = 1 by simp at hk; omega) with rfl | rfl <;> decide⟩
theorem moves_two0 : moves (cl [1, 2] 2 1) 2 (0 % 2) (0 / 2) = [(0, 1, 15)] := by decide
theorem moves_two1 : moves (cl [1, 2] 2 1) 2 (1 % 2) (1 / 2) = [(1, 0, 15)] := by decide

end Go.Proofs.YtpikbnolbjaebaaDoor
