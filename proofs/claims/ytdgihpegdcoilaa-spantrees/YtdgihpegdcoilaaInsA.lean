/-
  Laws: copy of pops into a row of the call's own; slices.overlaps of two blocks; a pop put in its place.
-/
import Derived.Test.YtdgihpegdcoilaaHeapF
import Derived.Lib.Overlaps
import Derived.Lib.AppendZerosOnto
import Derived.Laws.CopyRow
import Derived.Laws.CopyOwn
import Derived.Laws.Externs
namespace Go.Proofs.Ytdgihpegdcoilaa.So
open Go.RowKit
open Hq

/-- Where x belongs. -/
theorem ins_at (x : Int × Int) (ps : List (Int × Int)) (i : Nat) (hi : i ≤ ps.length) (h1 : ∀ j, j < i → ltb x (at' ps j) = false) (h2 : i < ps.length → ltb x (at' ps i) = true) :
    ins x ps = ps.take i ++ x :: ps.drop i := by
  induction ps generalizing i with
  | nil =>
    obtain rfl : i = 0 := by simpa using hi
    rfl
  | cons y r ih =>
    cases i with
    | zero =>
      have := h2 (by simp)
      have hy : at' (y :: r) 0 = y := rfl
      rw [hy] at this
      simp [ins, this]
    | succ i =>
      have h0 := h1 0 (by omega)
      have hy : at' (y :: r) 0 = y := rfl
      rw [hy] at h0
      have hs : ∀ j, at' (y :: r) (j + 1) = at' r j := fun j => rfl
      simp only [ins, h0, Bool.false_eq_true, if_false, List.take_succ_cons, List.drop_succ_cons, List.cons_append]
      rw [ih i (by simpa using hi) (fun j hj => by have := h1 (j + 1) (by omega); rwa [hs] at this) (fun hl => by have := h2 (by simpa using hl); rwa [hs] at this)]

/-- copy(d, s) of pops: d in a row that is known whole. -/
theorem run_copy2 (w : World) (ty : TypeId) (g o dLen dCap : Nat) (a : Addr) (sLen sCap k : Nat) (cur : List Value) (cs : List Value)
    (hg : w.heap[g]? = some (.cells cur.toArray 68 (0, 0))) (hk : Nat.min sLen dLen = k) (hn : cs.length = k * 2)
    (hsrc : ∀ j v, cs[j]? = some v → w.cell? (a.add j) = some v) (hfit : o + cs.length ≤ cur.length) (h1 : ∀ v ∈ cs, v.oneCell' = true) :
    (Builtin.copy_ #[66, 66] ty #[.slice (some ⟨g, o, none⟩) dLen dCap, .slice (some a) sLen sCap]).run Try.prog w =
      .ok (goInt k) (w.setRow g (splice cur o cs).toArray) := by
  obtain ⟨i0, hi0, hz0, hz1, hz2⟩ := info_parts info32
  have hl := run_loadCells_list (P := Try.prog) w a cs hsrc
  have hst := run_storeCells_at Try.prog g o 68 cs 0 cur.toArray w hg (by simpa using hfit) h1
  simp only [Nat.add_zero, List.append_assoc] at hst
  simp [Builtin.copy_, run_underlying Try.underlying66, Builtin.lenOf, Builtin.firstCells, sizeOf, typeInfo, hi0, hz1, hk, ← hn, hl, hst, splice]

theorem flat_drop (ps : List (Int × Int)) (i : Nat) : flat (ps.drop i) = (flat ps).drop (i * 2) := by
  rcases Nat.lt_or_ge ps.length i with h | h
  · rw [List.drop_of_length_le (by omega), List.drop_of_length_le (by rw [flat_length]; omega)]; rfl
  · have h6 : flat ps = flat (ps.take i) ++ flat (ps.drop i) := by rw [← flat_append, List.take_append_drop]
    have h7 := flat_length (ps.take i)
    rw [List.length_take, Nat.min_eq_left h] at h7
    rw [h6, ← h7, List.drop_left]
theorem flat_take (ps : List (Int × Int)) (i : Nat) (h : i ≤ ps.length) : flat (ps.take i) = (flat ps).take (i * 2) := by
  have h6 : flat ps = flat (ps.take i) ++ flat (ps.drop i) := by rw [← flat_append, List.take_append_drop]
  have h7 := flat_length (ps.take i)
  rw [List.length_take, Nat.min_eq_left h] at h7
  rw [h6, ← h7, List.take_left]

/-- Shifted up by two, and two laid in between. -/
theorem splice_shift {α : Type} (L F : List α) (k N : Nat) (a b : α) (hk : k ≤ N) (hF : F.length = N) (hL : L.take N = F) (hl : N + 2 ≤ L.length) :
    (splice (splice L (k + 2) (F.drop k)) k [a, b]).take (N + 2) = F.take k ++ (a :: b :: F.drop k) := by
  have e1 : splice L (k + 2) (F.drop k) = L.take (k + 2) ++ (F.drop k ++ L.drop (N + 2)) := by
    unfold splice
    rw [List.length_drop, hF, show k + 2 + (N - k) = N + 2 by omega]
  have e2 : (L.take (k + 2) ++ (F.drop k ++ L.drop (N + 2))).take k = F.take k := by
    rw [List.take_append_of_le_length (by simp; omega), List.take_take, Nat.min_eq_left (by omega), ← hL, List.take_take, Nat.min_eq_left hk]
  have e3 : (L.take (k + 2) ++ (F.drop k ++ L.drop (N + 2))).drop (k + 2) = F.drop k ++ L.drop (N + 2) := by
    exact List.drop_left' (by simp; omega)
  unfold splice at e1 ⊢
  rw [e1]
  simp only [List.length_cons, List.length_nil, Nat.zero_add]
  rw [e2, e3]
  have e4 : F.take k ++ ([a, b] ++ (F.drop k ++ L.drop (N + 2))) = (F.take k ++ (a :: b :: F.drop k)) ++ L.drop (N + 2) := by simp
  rw [e4]
  have e5 : (F.take k ++ (a :: b :: F.drop k)).length = N + 2 := by simp [hF]; omega
  rw [← e5, List.take_left]

/-- Laid into a new row behind its beginning. -/
theorem splice_fill {α : Type} (R F : List α) (k N : Nat) (a b : α) (hk : k ≤ N) (hF : F.length = N) (hR : R.take k = F.take k) :
    (splice (splice R k [a, b]) (k + 2) (F.drop k)).take (N + 2) = F.take k ++ (a :: b :: F.drop k) := by
  have e0 : (F.take k).length = k := by simp [hF]; omega
  have e1 : splice R k [a, b] = (F.take k ++ [a, b]) ++ R.drop (k + 2) := by
    unfold splice
    rw [hR]
    simp
  have e2 : ((F.take k ++ [a, b]) ++ R.drop (k + 2)).take (k + 2) = F.take k ++ [a, b] := by
    have : (F.take k ++ [a, b]).length = k + 2 := by simp [hF]; omega
    rw [← this, List.take_left]
  rw [e1]
  unfold splice
  rw [e2]
  have e4 : F.take k ++ [a, b] ++ (F.drop k ++ (F.take k ++ [a, b] ++ R.drop (k + 2)).drop (k + 2 + (F.drop k).length)) = (F.take k ++ (a :: b :: F.drop k)) ++ (F.take k ++ [a, b] ++ R.drop (k + 2)).drop (k + 2 + (F.drop k).length) := by simp
  rw [e4]
  have e5 : (F.take k ++ (a :: b :: F.drop k)).length = N + 2 := by simp [hF]; omega
  rw [← e5, List.take_left]

theorem flat_ins (ps : List (Int × Int)) (i : Nat) (x y : Int) (h : i ≤ ps.length) : flat (ps.take i ++ (x, y) :: ps.drop i) = (flat ps).take (i * 2) ++ (.int .i64 x :: .int .i64 y :: (flat ps).drop (i * 2)) := by
  rw [flat_append, flat_take ps i h, ← flat_drop]
  rfl

theorem Row.flat_cell {w : World} {g cap : Nat} {ps : List (Int × Int)} (h : Row w g cap ps) (j : Nat) (u : Value) (hu : (flat ps)[j]? = some u) : w.cell? ⟨g, j, none⟩ = some u := by
  obtain ⟨cur, h1, h2, h3, h4, h5⟩ := h
  have hj : j < ps.length * 2 := by
    rw [← flat_length]
    rcases Nat.lt_or_ge j (flat ps).length with h | h
    · exact h
    · rw [List.getElem?_eq_none h] at hu; cases hu
  rw [← h5, List.getElem?_take_of_lt hj, Array.getElem?_toList] at hu
  simp [World.cell?, h1, hu]

/-- The operation copy, where its run is known: in a plain region, and at a step of a region that draws. -/
theorem wpList_copy_known (w : World) {ops : Array Oper} {rest : List Oper} {o : Oper} {a : Act} {Q : Exit → Act → World → Prop} (hgd : o.guard = none) (d s : Operand) (t t' : TypeId)
    (ho : o.op = .call { callee := .builtin .copy, args := #[d, s], argTypes := #[t, t'] }) (v u : Value) (hd : a.eval d = v) (hs : a.eval s = u) {v' : Value} {w' : World}
    (hr : (Builtin.copy_ #[t, t'] o.type #[v, u]).run Try.prog w = .ok v' w') (h : wpList Try.prog ops Q rest (a.put o.dst v') w') : wpList Try.prog ops Q (o :: rest) a w :=
  wpList_plain hgd fun _ hK => by
    unfold Oper.wp execOp
    simp only [ho, resolve, invoke, builtin, Sem.run_bind, Sem.run_pure, Result.andThen_ok, List.map_toArray, List.map_cons, List.map_nil, hd, hs, hr]
    exact hK _ _ h
theorem step_copy_known {ops : Array Oper} {o : Oper} {a : Act} {w : World} {K : Act → World → Prop} {Q : Exit → Act → World → Prop} {E : Prop}
    (hg : o.guard = none) (d x : Operand) (dT sT : TypeId) (hop : o.op = Op.call { callee := Callee.builtin Builtin.copy, args := #[d, x], argTypes := #[dT, sT] })
    (v u : Value) (hd : a.eval d = v) (hx : a.eval x = u) {v' : Value} {w' : World} (hr : (Builtin.copy_ #[dT, sT] o.type #[v, u]).run Try.prog w = .ok v' w') (hK : K (a.put o.dst v') w') :
    if Region.wanted o (yielded ops a.tmps) = true then Oper.wp Try.prog o a w K Q else E := by
  have hw : Region.wanted o (yielded ops a.tmps) = true := by simp [Region.wanted, hg]
  rw [if_pos hw]
  unfold Oper.wp
  simp [execOp, hop, resolve, invoke, builtin, hd, hx, hr, Result.andThen]
  exact hK

end Go.Proofs.Ytdgihpegdcoilaa.So
