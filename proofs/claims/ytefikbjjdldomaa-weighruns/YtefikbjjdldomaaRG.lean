/-
  A region that draws its order, by an invariant: each operation, whenever it may come up, keeps it; at the end all have come up.
-/
import Derived.Test.YtefikbjjdldomaaBA
import Derived.Orders
namespace Go.Proofs.Ytefikbjjdldomaa
open Go Go.RowKit

/-- How many have not come up yet. -/
def lft (l : List Bool) : Nat := l.countP fun b => !b
theorem lft_set (l : List Bool) (i : Nat) (h : l[i]? = some false) : lft (l.set i true) + 1 = lft l := by
  induction l generalizing i with
  | nil => simp at h
  | cons b r ih =>
    cases i with
    | zero =>
      simp at h
      subst h
      simp [lft]
    | succ i =>
      simp at h
      have := ih i h
      simp only [lft, List.set_cons_succ, List.countP_cons] at this ⊢
      omega
theorem lft_zero {l : List Bool} (h : lft l = 0) (i : Nat) (hi : i < l.length) : l[i]? = some true := by
  have h1 := List.countP_eq_zero.1 h (l[i]) (List.getElem_mem hi)
  rw [List.getElem?_eq_getElem hi]
  simpa using h1
theorem ready_lt {md : Region.Mode} {ops : Array Oper} {listed : Array Bool} {i : Nat} (h : i ∈ Region.ready md ops listed) : ∃ o, ops[i]? = some o ∧ listed.getD i true = false ∧ ∀ e ∈ o.after, Region.binds md e = true → listed.getD e.on false = true := by
  unfold Region.ready at h
  rw [List.mem_filter] at h
  obtain ⟨h1, h2⟩ := h
  have h1 : i < ops.size := by simpa using h1
  simp only [Bool.and_eq_true, Bool.not_eq_true'] at h2
  refine ⟨ops[i], by simp [h1], h2.1, fun e he hb => ?_⟩
  have h3 := h2.2
  rw [Array.getElem?_eq_getElem h1] at h3
  simp only [Option.map_some, Option.getD_some] at h3
  have h4 := Array.all_eq_true_iff_forall_mem.1 h3 e he
  simpa [hb] using h4
/-- The edges that bind lead back. -/
def Back (ops : Array Oper) : Prop := ∀ i o, ops[i]? = some o → o.guard = none ∧ ∀ e ∈ o.after, Region.binds .any e = true → e.on < i
/-- The same, as a program tells it. -/
def backB (ops : Array Oper) : Bool := (List.range ops.size).all fun i => match ops[i]? with
  | some o => o.guard.isNone && o.after.all fun e => !Region.binds .any e || decide (e.on < i)
  | none => true
theorem back_of {ops : Array Oper} (h : backB ops = true) : Back ops := by
  intro i o hi
  have hio : i < ops.size := by
    rcases Nat.lt_or_ge i ops.size with h | h
    · exact h
    · rw [Array.getElem?_eq_none h] at hi; cases hi
  have h1 := List.all_eq_true.1 h i (by simpa using hio)
  rw [hi] at h1
  simp only [Bool.and_eq_true] at h1
  refine ⟨by simpa using h1.1, fun e he hb => ?_⟩
  have h2 := Array.all_eq_true_iff_forall_mem.1 h1.2 e he
  simpa [hb] using h2
theorem ready_nil {ops : Array Oper} {listed : Array Bool} (hb : Back ops) (hs : listed.size = ops.size) (h : Region.ready .any ops listed = []) : ∀ i, i < ops.size → listed.getD i false = true := by
  intro i
  induction i using Nat.strongRecOn with
  | ind i ih =>
    intro hi
    by_cases hl : listed.getD i false = true
    · exact hl
    · exfalso
      have hm : i ∈ Region.ready .any ops listed := by
        unfold Region.ready
        rw [List.mem_filter]
        refine ⟨by simpa using hi, ?_⟩
        have hl' : listed.getD i true = false := by
          have hi' : i < listed.size := by omega
          simp [Array.getD, hi'] at hl ⊢
          exact hl
        rw [hl', Array.getElem?_eq_getElem hi]
        simp only [Bool.not_false, Bool.true_and, Option.map_some, Option.getD_some]
        rw [Array.all_eq_true_iff_forall_mem]
        intro e he
        by_cases hbe : Region.binds .any e = true
        · have h1 := (hb i ops[i] (by simp [hi])).2 e he hbe
          rw [ih e.on h1 (by omega)]
          simp
        · simp [hbe]
      rw [h] at hm
      simp at hm
theorem wp_region_inv {P : Program} {id : Nat} {Q : Exit → Act → World → Prop} {a : Act} {w : World} {ops : Array Oper} (hm : P.follows .mixedOrders = true) (hb : Back ops) (I : (Nat → Bool) → Act → World → Prop) (h0 : I (fun _ => false) a w.drew)
    (hstep : ∀ i o, ops[i]? = some o → ∀ L a w, I L a w → L i = false → (∀ e ∈ o.after, Region.binds .any e = true → L e.on = true) → ∀ K : Act → World → Prop, (∀ a w, I (fun j => if j = i then true else L j) a w → K a w) → o.wp P a w K Q)
    (hend : ∀ L a w, I L a w → (∀ i, i < ops.size → L i = true) → Q .normal a w) : (Code.region id ops true).wp P Q a w := by
  refine wp_region_any hm ?_
  suffices key : ∀ fuel (listed : Array Bool) a w, listed.size = ops.size → lft listed.toList ≤ fuel → I (fun j => listed.getD j false) a w → wpAny P .any ops Q fuel listed a w from by
    refine key _ _ _ _ (by simp) ?_ ?_
    · simp only [Array.toList_replicate]
      exact Nat.le_trans (List.countP_le_length) (by simp)
    · have e : (fun j => (Array.replicate ops.size false).getD j false) = fun _ => false := by
        funext j
        by_cases hj : j < ops.size
        · simp [Array.getD, hj]
        · simp [Array.getD, hj]
      rw [e]
      exact h0
  intro fuel
  induction fuel with
  | zero =>
    intro listed a w hs hl hi
    have hall : ∀ i, i < ops.size → listed.getD i false = true := fun i hi => by
      have h1 := lft_zero (Nat.le_zero.1 hl) i (by simp; omega)
      have hi' : i < listed.size := by omega
      rw [Array.getElem?_toList, Array.getElem?_eq_getElem hi'] at h1
      simp [Array.getD, hi']
      simpa using h1
    unfold wpAny
    refine ⟨?_, hend _ a w hi hall⟩
    refine List.eq_nil_iff_forall_not_mem.2 (fun i hm => ?_)
    obtain ⟨o, h1, h2, _⟩ := ready_lt hm
    have hio : i < ops.size := by
      rcases Nat.lt_or_ge i ops.size with h | h
      · exact h
      · rw [Array.getElem?_eq_none h] at h1; cases h1
    have h3 := hall i hio
    have hi' : i < listed.size := by omega
    simp [Array.getD, hi'] at h2 h3
    rw [h2] at h3
    cases h3
  | succ fuel ih =>
    intro listed a w hs hl hi
    unfold wpAny
    refine ⟨fun hn => hend _ a w hi (ready_nil hb hs hn), fun i hmm => ?_⟩
    obtain ⟨o, h1, h2, h3⟩ := ready_lt hmm
    have hio : i < ops.size := by
      rcases Nat.lt_or_ge i ops.size with h | h
      · exact h
      · rw [Array.getElem?_eq_none h] at h1; cases h1
    have hi' : i < listed.size := by omega
    unfold wpOp
    rw [h1]
    simp only
    rw [if_pos (by simp [Region.wanted, (hb i o h1).1])]
    refine .inl (hstep i o h1 _ a w hi (by simp [Array.getD, hi'] at h2 ⊢; exact h2) h3 _ (fun a' w' hI => ?_))
    refine ih _ a' w' (by simp [hs]) ?_ ?_
    · have h4 : listed.toList[i]? = some false := by
        rw [Array.getElem?_toList, Array.getElem?_eq_getElem hi']
        simp [Array.getD, hi'] at h2
        rw [h2]
      have h5 := lft_set _ _ h4
      rw [Array.toList_setIfInBounds]
      omega
    · have e : (fun j => (listed.setIfInBounds i true).getD j false) = fun j => if j = i then true else listed.getD j false := by
        funext j
        by_cases hji : j = i
        · subst hji
          simp [Array.getD, hi']
        · by_cases hj : j < listed.size
          · simp [Array.getD, hj, hji, Ne.symm hji]
          · simp [Array.getD, hj, hji]
      rw [e]
      exact hI
/-- What stands of each operation that has come up, one more having come up. -/
theorem bset {p : Nat → Value → World → Prop} (st : ∀ j v w w', p j v w → Below w.heap.size w w' → p j v w') {v : Nat → Value} {L : Nat → Bool} {w w' : World} (h : ∀ j, L j = true → p j (v j) w) (hb : Below w.heap.size w w') (i : Nat) (x : Value) (hx : p i x w') : ∀ j, (if j = i then true else L j) = true → p j (if j = i then x else v j) w' := by
  intro j hj
  by_cases e : j = i
  · subst e
    rw [if_pos rfl]
    exact hx
  · rw [if_neg e] at hj ⊢
    exact st _ _ _ _ (h j hj) hb
end Go.Proofs.Ytefikbjjdldomaa
