/-
  Plain: the numbers of all edges from all places are all numbers, each once. No Go in sight.
-/
import Derived.Test.YtfgdcglgloahfacNm
namespace Go.Proofs.Ytfgdcglgloahfac.Sm
open Nm
set_option linter.unusedSimpArgs false

/-- The edges from the first v places, one place behind the other. -/
def alls (es : List E) : Nat → List Int
  | 0 => []
  | v + 1 => alls es v ++ outs (v : Int) es es.length
theorem alls_next (es : List E) (v : Nat) : alls es (v + 1) = alls es v ++ outs (v : Int) es es.length := rfl

def key (es : List E) (i : Nat) : Int := (at3 es i).1
theorem outs_filter (v : Int) (es : List E) (k : Nat) : outs v es k = ((List.range k).filter (fun i => decide (key es i = v))).map (fun i : Nat => (i : Int)) := by
  induction k with
  | zero => rfl
  | succ k ih =>
    rw [outs, ih, List.range_succ, List.filter_append, List.map_append]
    congr 1
    by_cases h : (at3 es k).1 = v
    · rw [if_pos h]; have h' : key es k = v := h; simp [h']
    · rw [if_neg h]; have h' : ¬ key es k = v := h; simp [h']
theorem filter_split {α : Type} (p q r : α → Bool) (h : ∀ a, r a = (p a || q a)) (hd : ∀ a, ¬ (p a = true ∧ q a = true)) (l : List α) : (l.filter p ++ l.filter q).Perm (l.filter r) := by
  induction l with
  | nil => simp
  | cons a l ih =>
    have ha := h a
    have hda := hd a
    cases hp : p a <;> cases hq : q a
    · rw [hp, hq] at ha
      rw [List.filter_cons_of_neg (by simp [hp]), List.filter_cons_of_neg (by simp [hq]), List.filter_cons_of_neg (by simp [ha])]
      exact ih
    · rw [hp, hq] at ha
      rw [List.filter_cons_of_neg (by simp [hp]), List.filter_cons_of_pos hq, List.filter_cons_of_pos ha]
      exact List.perm_middle.trans (ih.cons a)
    · rw [hp, hq] at ha
      rw [List.filter_cons_of_pos hp, List.filter_cons_of_neg (by simp [hq]), List.filter_cons_of_pos ha]
      exact ih.cons a
    · exact absurd ⟨hp, hq⟩ hda
theorem alls_filter (es : List E) (v : Nat) : (alls es v).Perm (((List.range es.length).filter (fun i => decide (0 ≤ key es i ∧ key es i < (v : Int)))).map (fun i : Nat => (i : Int))) := by
  induction v with
  | zero =>
    have : (List.range es.length).filter (fun i => decide (0 ≤ key es i ∧ key es i < ((0 : Nat) : Int))) = [] := by
      rw [List.filter_eq_nil_iff]
      intro i _ h
      have := of_decide_eq_true h
      omega
    rw [this]; exact List.Perm.refl _
  | succ v ih =>
    rw [alls_next, outs_filter]
    refine (ih.append_right _).trans ?_
    rw [← List.map_append]
    refine (filter_split _ _ _ (fun i => ?_) (fun i => ?_) _).map _
    · simp only [← Bool.decide_or]
      congr 1
      apply propext
      constructor
      · intro h; omega
      · intro h; omega
    · rintro ⟨h1, h2⟩
      have a := of_decide_eq_true h1
      have b := of_decide_eq_true h2
      omega
theorem alls_perm {n : Int} {es : List E} (hg : Gn n es) : (alls es n.toNat).Perm ((List.range es.length).map (fun i : Nat => (i : Int))) := by
  refine (alls_filter es n.toNat).trans ?_
  rw [List.filter_eq_self.2]
  intro i hi
  have hi' := List.mem_range.1 hi
  have := hg.ok _ (mem_at hi')
  have h1 := hg.n1
  refine decide_eq_true ⟨this.1, ?_⟩
  show (at3 es i).1 < _
  omega
theorem range_sorted (m : Nat) : ((List.range m).map (fun i : Nat => (i : Int))).Pairwise (fun a b => a ≤ b) := by
  rw [List.pairwise_map]
  exact List.pairwise_lt_range.imp (fun h => by omega)
theorem sort_alls {n : Int} {es : List E} (hg : Gn n es) : (alls es n.toNat).mergeSort (fun x y => decide (x ≤ y)) = (List.range es.length).map (fun i : Nat => (i : Int)) := by
  refine List.Perm.eq_of_pairwise (le := fun a b : Int => a ≤ b) (fun a b _ _ h1 h2 => Int.le_antisymm h1 h2) ?_ (range_sorted _) ((List.mergeSort_perm _ _).trans (alls_perm hg))
  have := List.pairwise_mergeSort (le := fun x y : Int => decide (x ≤ y)) (fun a b c h1 h2 => decide_eq_true (Int.le_trans (of_decide_eq_true h1) (of_decide_eq_true h2))) (fun a b => by
    rcases Int.le_total a b with h | h
    · simp [h]
    · simp [h]) (alls es n.toNat)
  exact this.imp (fun h => of_decide_eq_true h)
theorem alls_length {n : Int} {es : List E} (hg : Gn n es) : (alls es n.toNat).length = es.length := by
  rw [(alls_perm hg).length_eq]; simp
theorem alls_le (es : List E) (v : Nat) : (alls es v).length ≤ v * es.length := by
  induction v with
  | zero => simp [alls]
  | succ v ih => rw [alls_next, List.length_append, Nat.succ_mul]; have := outs_length (v : Int) es es.length; omega
/-! ### Turned twice -/
theorem trn_trn (es : List E) : (es.map trn).map trn = es := by
  rw [List.map_map]
  have : trn ∘ trn = id := by funext e; rfl
  rw [this, List.map_id]
theorem gn_trn {n : Int} {es : List E} (h : Gn n es) : Gn n (es.map trn) := by
  refine ⟨h.n1, h.n64, by rw [List.length_map]; exact h.len, fun e he => ?_⟩
  obtain ⟨d, hd, rfl⟩ := List.mem_map.1 he
  obtain ⟨a, b, c, d', e', f⟩ := h.ok d hd
  exact ⟨c, d', a, b, e', f⟩
end Go.Proofs.Ytfgdcglgloahfac.Sm
