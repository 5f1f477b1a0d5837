/-
  Ground turned over: its cells; the contract of the function that turns a cell's number over.
-/
import Derived.Test.YtpikbnolbjaebaaDoorDG
import Derived.Laws.MakeOwn
namespace Go.Proofs.YtpikbnolbjaebaaDoor
open Go.RowKit
open Gm

/-- The number of the cell that lies over against v. -/
def over (W v : Int) : Int := v / W * W + (W - 1 - v % W)
theorem over_xy {W x y : Int} (h0 : 0 ≤ x) (h1 : x < W) : over W (y * W + x) = y * W + (W - 1 - x) := by
  obtain ⟨c1, c2⟩ := coords_of (y := y) h0 h1
  unfold over; rw [c1, c2]
theorem over_in {W H v : Int} (hW : 1 ≤ W) (h0 : 0 ≤ v) (h1 : v < W * H) : 0 ≤ over W v ∧ over W v < W * H ∧ over W v % W = W - 1 - v % W ∧ over W v / W = v / W ∧ 0 ≤ v / W * W ∧ v / W * W ≤ v := by
  obtain ⟨k0, k1, k2, k3, k4⟩ := coords hW h0 h1
  obtain ⟨j1, j2⟩ := idx (W := W) (H := H) (x := W - 1 - v % W) (y := v / W) (by omega) (by omega) k2 k3
  obtain ⟨c1, c2⟩ := coords_of (W := W) (x := W - 1 - v % W) (y := v / W) (by omega) (by omega)
  unfold over
  exact ⟨by omega, j2, c1, c2, j1, by omega⟩
theorem over_over {W H v : Int} (hW : 1 ≤ W) (h0 : 0 ≤ v) (h1 : v < W * H) : over W (over W v) = v := by
  obtain ⟨o1, o2, o3, o4, _⟩ := over_in hW h0 h1
  obtain ⟨k0, k1, k2, k3, k4⟩ := coords hW h0 h1
  show over W v / W * W + (W - 1 - over W v % W) = v
  rw [o3, o4]; omega

/-- The cells, turned over. -/
def mirr (W : Int) (cs : List Int) : List Int := (List.range cs.length).map (fun i : Nat => cs.getD (over W (i : Int)).toNat 0)
theorem mirr_length (W : Int) (cs : List Int) : (mirr W cs).length = cs.length := by simp [mirr]
theorem mirr_get (W : Int) (cs : List Int) (i : Nat) (h : i < cs.length) : (mirr W cs).getD i 0 = cs.getD (over W i).toNat 0 := by
  simp [mirr, List.getD_eq_getElem?_getD, h]
theorem mirr_gd {W H : Int} {cs : List Int} (hg : Gd W H cs) : Gd W H (mirr W cs) := by
  refine ⟨hg.w1, hg.w8, hg.h1, hg.h8, by rw [mirr_length]; exact hg.len, fun k hk => ?_⟩
  rw [mirr_length] at hk
  rw [mirr_get W cs k hk]
  obtain ⟨o1, o2, _⟩ := over_in (v := (k : Int)) hg.w1 (by omega) (show (k : Int) < W * H by rw [← hg.len]; omega)
  have := hg.len
  exact hg.cell _ (by omega)
theorem mirr_cl {W H : Int} {cs : List Int} (hg : Gd W H cs) (u v : Int) : cl (mirr W cs) W H (W - 1 - u) v = cl cs W H u v := by
  by_cases h : 0 ≤ u ∧ u < W ∧ 0 ≤ v ∧ v < H
  · obtain ⟨h0, h1, h2, h3⟩ := h
    rw [cl_at ⟨h0, h1, h2, h3⟩, cl_at (by omega)]
    obtain ⟨j1, j2⟩ := idx (W := W) (H := H) (x := W - 1 - u) (y := v) (by omega) (by omega) h2 h3
    obtain ⟨t, ht⟩ := Int.eq_ofNat_of_zero_le (show 0 ≤ v * W + (W - 1 - u) by omega)
    rw [ht, Int.toNat_natCast, mirr_get W cs t (by have := hg.len; omega), ← ht, over_xy (by omega) (by omega), show W - 1 - (W - 1 - u) = u by omega]
  · rw [cl_out h, cl_out (by omega)]

/-- The moves of ground turned over. -/
theorem turned_of {W H n : Int} {cs : List Int} (hg : Gd W H cs) (h0 : 0 ≤ n) (hn : n < (cs.length : Int)) :
    (moves (cl (mirr W cs) W H) W (over W n % W) (over W n / W)).length = (moves (cl cs W H) W (n % W) (n / W)).length ∧
    ∀ f t k, (f, t, k) ∈ moves (cl cs W H) W (n % W) (n / W) → f = n ∧ 0 ≤ t ∧ t < (cs.length : Int) ∧ (over W n, over W t, k) ∈ moves (cl (mirr W cs) W H) W (over W n % W) (over W n / W) := by
  have hn' : n < W * H := by rw [← hg.len]; exact hn
  obtain ⟨o1, o2, o3, o4, _⟩ := over_in hg.w1 h0 hn'
  obtain ⟨k0, k1, k2, k3, k4⟩ := coords hg.w1 h0 hn'
  rw [o3, o4]
  refine ⟨moves_mir_length (mirr_cl hg), fun f t k h => ?_⟩
  obtain ⟨hne, s, hs, ho, he⟩ := mem_moves h
  have hin := cl_in (opn_iff.1 ho).1
  obtain ⟨j1, j2⟩ := idx hin.1 hin.2.1 hin.2.2.1 hin.2.2.2
  have hb := moves_mir (mirr_cl hg) hne hs ho
  rw [← he] at hb
  have ht : t = (n / W + s.2.1) * W + (n % W + s.1) := by
    have := congrArg (fun e => e.2.1) he
    simp only [edge] at this
    omega
  have hf : f = n := by
    have := congrArg (fun e => e.1) he
    simp only [edge] at this
    omega
  rw [← ht] at j2
  refine ⟨hf, by omega, by rw [hg.len]; exact j2, ?_⟩
  have e1 : over W n = n / W * W + (W - 1 - n % W) := rfl
  have e2 : over W t = (n / W + s.2.1) * W + (W - 1 - (n % W + s.1)) := by rw [ht, over_xy hin.1 hin.2.1]
  rw [e1, e2]
  exact hb

/-- Block g holds the n numbers U. -/
structure Ur (w : World) (g n : Nat) (U : Nat → Int) : Prop where
  block : w.heap[g]? = some (.cells (Array.ofFn (n := n) fun i => .int .i64 (U i)) 3 (0, 0))
theorem Ur.cell {w : World} {g n : Nat} {U : Nat → Int} (h : Ur w g n U) (i : Nat) (hi : i < n) : w.cell? ⟨g, i, none⟩ = some (.int .i64 (U i)) ∧ w.frozen? ⟨g, i, none⟩ = false := by
  simp [World.cell?, World.frozen?, h.block, hi]
theorem Ur.lt {w : World} {g n : Nat} {U : Nat → Int} (h : Ur w g n U) : g < w.heap.size := by
  rcases Nat.lt_or_ge g w.heap.size with hlt | hge
  · exact hlt
  · have := h.block; rw [Array.getElem?_eq_none hge] at this; cases this
theorem Ur.frame {w w' : World} {g n : Nat} {U : Nat → Int} (h : Ur w g n U) (hb : w'.heap[g]? = w.heap[g]?) : Ur w' g n U := ⟨hb.trans h.block⟩
theorem Ur.below {w w' : World} {g n : Nat} {U : Nat → Int} (h : Ur w g n U) (hb : Below w.heap.size w w') : Ur w' g n U := h.frame (hb.block _ h.lt)
theorem Ur.drewN {w : World} {g n : Nat} {U : Nat → Int} (h : Ur w g n U) (q : Nat) : Ur (w.drewN q) g n U := ⟨h.block⟩
def updI (U : Nat → Int) (i : Nat) (v : Int) : Nat → Int := fun x => if x = i then v else U x
theorem heap_setCell_same (w : World) (g o : Nat) (v : Value) (cur : Array Value) (t : TypeId) (fr : Nat × Nat) (h : w.heap[g]? = some (.cells cur t fr)) :
    (w.setCell ⟨g, o, none⟩ v).heap[g]? = some (.cells (cur.setIfInBounds o v) t fr) := by
  simp [World.setCell, Array.getElem?_modify, h]
theorem Ur.put {w : World} {g n : Nat} {U : Nat → Int} (h : Ur w g n U) (i : Nat) (v : Int) : Ur (w.setCell ⟨g, i, none⟩ (.int .i64 v)) g n (updI U i v) := by
  refine ⟨(heap_setCell_same _ _ _ _ _ _ _ h.block).trans ?_⟩
  congr 2
  apply Array.ext_getElem?
  intro j
  rw [Array.getElem?_setIfInBounds]
  by_cases hj : j < n
  · by_cases e : i = j
    · subst e; simp [hj, updI]
    · have e' : ¬ j = i := fun e' => e e'.symm
      simp [hj, e, updI, e']
  · by_cases e : i = j
    · subst e; simp [hj]
    · simp [hj, e]
/-- A row of numbers, as it is read. -/
theorem Ur.sl {w : World} {g n : Nat} {U : Nat → Int} {cs : List Int} (h : Ur w g n U) (hn : cs.length = n) (he : ∀ i, i < n → U i = cs.getD i 0) (c : Nat) : SlI w (.slice (some ⟨g, 0, none⟩) n c) cs := by
  subst hn
  refine .row g 0 c rfl (fun i hi => ?_)
  rw [Nat.zero_add, (h.cell i hi).1, he i hi]

theorem madeOne (z : Value) (n : Nat) : madeCells #[z] n = Array.ofFn (n := n) fun _ => z := by
  apply Array.ext
  · simp [madeCells]
  · intro i h1 h2
    simp [madeCells, Nat.mod_one]
theorem info3 : (Tryd.prog.info? 3).map (fun i => (i.zero, i.size, i.bytes)) = some (some (.int .i64 0), 1, 8) := by kernel_rfl
theorem made_run (n : Nat) (hn : n ≤ 64) (w : World) : (Instr.makeSlice 22 (.int .i64 n) (.int .i64 n)).run Tryd.prog w = .ok (.slice (some ⟨w.heap.size, 0, none⟩) n n) (w.alloc (.cells (Array.ofFn (n := n) fun _ => .int .i64 0) 3)) := by
  obtain ⟨i, hi, hh⟩ := Option.map_eq_some_iff.1 info3
  simp only [Prod.mk.injEq] at hh
  obtain ⟨hz, hs, hb⟩ := hh
  have := run_makeSlice (P := Tryd.prog) w 22 3 i (.int .i64 0) Tryd.underlying22 hi hz .i64 .i64 n n (by omega) (by omega) (by rw [hs]; omega) (by rw [hb]; omega) (by omega)
  rw [hs] at this
  simp only [Int.toNat_natCast, Nat.mul_one] at this
  rw [this, ← madeOne]
  rfl


set_option maxRecDepth 100000 in
set_option maxHeartbeats 4000000 in
theorem over_any (W v : Int) (X : Nat) (w : World) (h1 : 1 ≤ W) (h8 : W ≤ 8) (h0 : 0 ≤ v) (h64 : v ≤ 64) (hx : w.cell? ⟨X, 0, none⟩ = some (.int .i64 W)) :
    Calls Tryd.prog 12 #[.int .i64 v, .pointer (some ⟨X, 0, none⟩)] w fun e w' => e = .returned (.int .i64 (over W v)) ∧ ∃ q, w' = w.drewN q := by
  have hWz : (W == 0) = false := by simp; omega
  have m0 : 0 ≤ v % W := Int.emod_nonneg v (by omega)
  have m1 : v % W < W := Int.emod_lt_of_pos v (by omega)
  have e1 : v / W * W + v % W = v := by rw [Int.mul_comm]; exact Int.mul_ediv_add_emod v W
  have d0 : 0 ≤ v / W := Int.ediv_nonneg h0 (by omega)
  have d1 : v / W ≤ v := Int.ediv_le_self _ h0
  have HO : Hid (v / W * W + W - 1 - v % W = over W v) := by unfold Hid over; omega
  have b1 : 0 ≤ v / W * W := Int.mul_nonneg d0 (by omega)
  have b2 : v / W * W ≤ 64 := by omega
  clear e1
  go_enter Tryd.func12, Tryd.ntmps12
  go_wp2_with fail
  go_quiet (fail)
  go_wp2_with fail
  go_ret
  exact ⟨ret_int HO.out, nq, rfl⟩

end Go.Proofs.YtpikbnolbjaebaaDoor
