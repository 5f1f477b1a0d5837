/-
  Plain ground: cells by their coordinates, steps, moves. No Go in sight.
-/
import Derived.KernelRfl
namespace Go.Proofs.YtekeajencihfgaaDoor.Gm
set_option linter.unusedSimpArgs false

/-- The eight steps: right, down, what it costs. -/
def steps : List (Int × Int × Int) := [(0, -1, 5), (1, -1, 7), (1, 0, 5), (1, 1, 7), (0, 1, 5), (-1, 1, 7), (-1, 0, 5), (-1, -1, 7)]
def st (k : Nat) : Int × Int × Int := steps.getD k (0, 0, 0)

theorem st_bounds (k : Nat) (h : k < 8) : -1 ≤ (st k).1 ∧ (st k).1 ≤ 1 ∧ -1 ≤ (st k).2.1 ∧ (st k).2.1 ≤ 1 ∧ 5 ≤ (st k).2.2 ∧ (st k).2.2 ≤ 7 := by
  rcases (show k = 0 ∨ k = 1 ∨ k = 2 ∨ k = 3 ∨ k = 4 ∨ k = 5 ∨ k = 6 ∨ k = 7 by omega) with rfl | rfl | rfl | rfl | rfl | rfl | rfl | rfl <;> decide

/-- What lies at column x of row y: nothing but rock outside. -/
def cl (cs : List Int) (W H x y : Int) : Int := if 0 ≤ x ∧ x < W ∧ 0 ≤ y ∧ y < H then cs.getD (y * W + x).toNat 0 else 0

/-- The step is open. -/
def opn (c : Int → Int → Int) (x y : Int) (s : Int × Int × Int) : Bool := c (x + s.1) (y + s.2.1) != 0 && c (x + s.1) y != 0 && c x (y + s.2.1) != 0
/-- The move. -/
def edge (c : Int → Int → Int) (W x y : Int) (s : Int × Int × Int) : Int × Int × Int := (y * W + x, (y + s.2.1) * W + x + s.1, s.2.2 * (c x y + c (x + s.1) (y + s.2.1)))
def mv1 (c : Int → Int → Int) (W x y : Int) (s : Int × Int × Int) : Option (Int × Int × Int) := if opn c x y s = true then some (edge c W x y s) else none
/-- All moves. -/
def mvs (c : Int → Int → Int) (W x y : Int) (l : List (Int × Int × Int)) : List (Int × Int × Int) := l.filterMap (mv1 c W x y)
def moves (c : Int → Int → Int) (W x y : Int) : List (Int × Int × Int) := if c x y = 0 then [] else mvs c W x y steps

theorem steps_take (k : Nat) (h : k < 8) : steps.take (k + 1) = steps.take k ++ [st k] := by
  rcases (show k = 0 ∨ k = 1 ∨ k = 2 ∨ k = 3 ∨ k = 4 ∨ k = 5 ∨ k = 6 ∨ k = 7 by omega) with rfl | rfl | rfl | rfl | rfl | rfl | rfl | rfl <;> rfl
theorem mvs_yes {c : Int → Int → Int} {W x y : Int} {k : Nat} (h : k < 8) (ho : opn c x y (st k) = true) : mvs c W x y (steps.take (k + 1)) = mvs c W x y (steps.take k) ++ [edge c W x y (st k)] := by
  unfold mvs
  rw [steps_take k h, List.filterMap_append]
  simp [mv1, ho]
theorem mvs_no {c : Int → Int → Int} {W x y : Int} {k : Nat} (h : k < 8) (ho : opn c x y (st k) = false) : mvs c W x y (steps.take (k + 1)) = mvs c W x y (steps.take k) := by
  unfold mvs
  rw [steps_take k h, List.filterMap_append]
  simp [mv1, ho]
theorem mvs_length (c : Int → Int → Int) (W x y : Int) (k : Nat) : (mvs c W x y (steps.take k)).length ≤ 8 := by
  unfold mvs
  refine Nat.le_trans (List.length_filterMap_le _ _) ?_
  simp [steps]; omega

/-! ### Each move has a move back -/
theorem back_step {s : Int × Int × Int} (h : s ∈ steps) : (-s.1, -s.2.1, s.2.2) ∈ steps := by
  simp only [steps, List.mem_cons, List.not_mem_nil, or_false] at h
  rcases h with rfl | rfl | rfl | rfl | rfl | rfl | rfl | rfl <;> decide
theorem mem_moves {c : Int → Int → Int} {W x y : Int} {e : Int × Int × Int} (h : e ∈ moves c W x y) : c x y ≠ 0 ∧ ∃ s, s ∈ steps ∧ opn c x y s = true ∧ e = edge c W x y s := by
  unfold moves at h
  split at h
  · simp at h
  · rename_i h0
    refine ⟨h0, ?_⟩
    unfold mvs at h
    rw [List.mem_filterMap] at h
    obtain ⟨s, hs, h1⟩ := h
    unfold mv1 at h1
    split at h1
    · rename_i ho
      exact ⟨s, hs, ho, (Option.some.inj h1).symm⟩
    · cases h1
theorem moves_mem {c : Int → Int → Int} {W x y : Int} {s : Int × Int × Int} (h0 : c x y ≠ 0) (hs : s ∈ steps) (ho : opn c x y s = true) : edge c W x y s ∈ moves c W x y := by
  unfold moves mvs
  rw [if_neg h0, List.mem_filterMap]
  exact ⟨s, hs, by unfold mv1; rw [if_pos ho]⟩
theorem opn_iff {c : Int → Int → Int} {x y : Int} {s : Int × Int × Int} : opn c x y s = true ↔ c (x + s.1) (y + s.2.1) ≠ 0 ∧ c (x + s.1) y ≠ 0 ∧ c x (y + s.2.1) ≠ 0 := by
  unfold opn; simp [and_assoc]
theorem moves_back {c : Int → Int → Int} {W x y : Int} {s : Int × Int × Int} (h0 : c x y ≠ 0) (hs : s ∈ steps) (ho : opn c x y s = true) :
    ((edge c W x y s).2.1, (edge c W x y s).1, (edge c W x y s).2.2) ∈ moves c W (x + s.1) (y + s.2.1) := by
  obtain ⟨o1, o2, o3⟩ := opn_iff.1 ho
  have hb := back_step hs
  have hx : x + s.1 + -s.1 = x := by omega
  have hy : y + s.2.1 + -s.2.1 = y := by omega
  have := moves_mem (W := W) (s := (-s.1, -s.2.1, s.2.2)) o1 hb (opn_iff.2 (by simp only [hx, hy]; exact ⟨h0, o3, o2⟩))
  have e : edge c W (x + s.1) (y + s.2.1) (-s.1, -s.2.1, s.2.2) = ((edge c W x y s).2.1, (edge c W x y s).1, (edge c W x y s).2.2) := by
    unfold edge
    simp only [hx, hy]
    refine Prod.ext ?_ (Prod.ext ?_ ?_)
    · simp only; omega
    · simp only; omega
    · simp only; rw [Int.add_comm]
  rw [← e]; exact this

/-! ### Ground that is turned over -/
def mir (s : Int × Int × Int) : Int × Int × Int := (-s.1, s.2.1, s.2.2)
theorem mir_step {s : Int × Int × Int} (h : s ∈ steps) : mir s ∈ steps := by
  simp only [steps, List.mem_cons, List.not_mem_nil, or_false] at h
  rcases h with rfl | rfl | rfl | rfl | rfl | rfl | rfl | rfl <;> decide
theorem mir_perm : (steps.map mir).Perm steps := by decide
theorem opn_mir {c d : Int → Int → Int} {W x y : Int} (h : ∀ u v, d (W - 1 - u) v = c u v) (s : Int × Int × Int) : opn d (W - 1 - x) y (mir s) = opn c x y s := by
  unfold opn mir
  have e : W - 1 - x + -s.1 = W - 1 - (x + s.1) := by omega
  simp only [e, h]
theorem mvs_count (c : Int → Int → Int) (W x y : Int) (l : List (Int × Int × Int)) : (mvs c W x y l).length = l.countP (opn c x y) := by
  induction l with
  | nil => rfl
  | cons s r ih =>
    unfold mvs at *
    rw [List.filterMap_cons]
    unfold mv1 at *
    by_cases h : opn c x y s = true
    · simp [h, ih]
    · simp [h, ih]
theorem moves_mir_length {c d : Int → Int → Int} {W x y : Int} (h : ∀ u v, d (W - 1 - u) v = c u v) : (moves d W (W - 1 - x) y).length = (moves c W x y).length := by
  unfold moves
  rw [h]
  split
  · rfl
  · rw [mvs_count, mvs_count, ← mir_perm.countP_eq, List.countP_map]
    congr 1
    funext s
    exact opn_mir h s
theorem moves_mir {c d : Int → Int → Int} {W x y : Int} (h : ∀ u v, d (W - 1 - u) v = c u v) {s : Int × Int × Int} (h0 : c x y ≠ 0) (hs : s ∈ steps) (ho : opn c x y s = true) :
    (y * W + (W - 1 - x), (y + s.2.1) * W + (W - 1 - (x + s.1)), (edge c W x y s).2.2) ∈ moves d W (W - 1 - x) y := by
  have := moves_mem (c := d) (W := W) (x := W - 1 - x) (y := y) (s := mir s) (by rw [h]; exact h0) (mir_step hs) (by rw [opn_mir h]; exact ho)
  have e : edge d W (W - 1 - x) y (mir s) = (y * W + (W - 1 - x), (y + s.2.1) * W + (W - 1 - (x + s.1)), (edge c W x y s).2.2) := by
    unfold edge mir
    have e : W - 1 - x + -s.1 = W - 1 - (x + s.1) := by omega
    refine Prod.ext ?_ (Prod.ext ?_ ?_)
    · rfl
    · simp only; omega
    · simp only [e, h]
  rw [← e]; exact this

/-! ### Numbers of cells -/
theorem mul_nn {a b : Int} (ha : 0 ≤ a) (hb : 0 ≤ b) : 0 ≤ a * b := Int.mul_nonneg ha hb
/-- The number of a cell that is there. -/
theorem idx {W H x y : Int} (h0 : 0 ≤ x) (h1 : x < W) (h2 : 0 ≤ y) (h3 : y < H) : 0 ≤ y * W ∧ y * W + x < W * H := by
  have k1 : 0 ≤ y * W := Int.mul_nonneg h2 (by omega)
  have k2 : (y + 1) * W ≤ H * W := Int.mul_le_mul_of_nonneg_right (by omega) (by omega)
  rw [Int.add_mul, Int.one_mul, Int.mul_comm H W] at k2
  exact ⟨k1, by omega⟩
theorem coords {W H a : Int} (hW : 1 ≤ W) (h0 : 0 ≤ a) (h1 : a < W * H) : 0 ≤ a % W ∧ a % W < W ∧ 0 ≤ a / W ∧ a / W < H ∧ a / W * W + a % W = a := by
  have e : a / W * W + a % W = a := by rw [Int.mul_comm]; exact Int.mul_ediv_add_emod a W
  refine ⟨Int.emod_nonneg a (by omega), Int.emod_lt_of_pos a (by omega), Int.ediv_nonneg h0 (by omega), ?_, e⟩
  exact Int.ediv_lt_of_lt_mul (by omega) (by rw [Int.mul_comm]; exact h1)
theorem coords_of {W x y : Int} (h0 : 0 ≤ x) (h1 : x < W) : (y * W + x) % W = x ∧ (y * W + x) / W = y := by
  have hW : W ≠ 0 := by omega
  constructor
  · rw [Int.add_comm, Int.add_mul_emod_self_right, Int.emod_eq_of_lt h0 h1]
  · rw [Int.add_comm, Int.add_mul_ediv_right _ _ hW, Int.ediv_eq_zero_of_lt h0 h1, Int.zero_add]

theorem cl_in {cs : List Int} {W H x y : Int} (h : cl cs W H x y ≠ 0) : 0 ≤ x ∧ x < W ∧ 0 ≤ y ∧ y < H := by
  unfold cl at h
  split at h
  · assumption
  · exact absurd rfl h
theorem cl_at {cs : List Int} {W H x y : Int} (h : 0 ≤ x ∧ x < W ∧ 0 ≤ y ∧ y < H) : cl cs W H x y = cs.getD (y * W + x).toNat 0 := by
  unfold cl; rw [if_pos h]
theorem cl_out {cs : List Int} {W H x y : Int} (h : ¬ (0 ≤ x ∧ x < W ∧ 0 ≤ y ∧ y < H)) : cl cs W H x y = 0 := by
  unfold cl; rw [if_neg h]

end Go.Proofs.YtekeajencihfgaaDoor.Gm
