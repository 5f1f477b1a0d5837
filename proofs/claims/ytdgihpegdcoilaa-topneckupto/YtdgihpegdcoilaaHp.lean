/-
  Plain lists of pairs: their order by the first number, heaps as lists. No Go in sight.
-/
import Derived.KernelRfl
namespace Go.Proofs.Ytdgihpegdcoilaa.Hp
set_option linter.unusedSimpArgs false

/-- No greater: by the first number. -/
def Le (p q : Int × Int) : Prop := p.1 ≤ q.1
/-- Less, as the program tests it. -/
def ltb (p q : Int × Int) : Bool := decide (p.1 < q.1)
theorem ltb_true {p q : Int × Int} (h : ltb p q = true) : Le p q := by
  have := of_decide_eq_true h; unfold Le; omega
theorem ltb_false {p q : Int × Int} (h : ltb p q = false) : Le q p := by
  have := of_decide_eq_false h; unfold Le; omega
theorem Le.refl (p : Int × Int) : Le p p := Int.le_refl _
theorem Le.trans {p q r : Int × Int} (h1 : Le p q) (h2 : Le q r) : Le p r := Int.le_trans h1 h2
/-- Element number i. -/
def at' (l : List (Int × Int)) (i : Nat) : Int × Int := l.getD i (0, 0)
/-- Two elements exchanged. -/
def swp (l : List (Int × Int)) (i j : Nat) : List (Int × Int) := (l.set i (at' l j)).set j (at' l i)
theorem swp_length (l : List (Int × Int)) (i j : Nat) : (swp l i j).length = l.length := by simp [swp]
theorem at_swp (l : List (Int × Int)) (i j k : Nat) (hi : i < l.length) (hj : j < l.length) :
    at' (swp l i j) k = if k = j then at' l i else if k = i then at' l j else at' l k := by
  unfold at' swp at'
  simp only [List.getD_eq_getElem?_getD, List.getElem?_set]
  by_cases h1 : k = j
  · subst h1; simp [hj]
  · by_cases h2 : k = i
    · subst h2; simp [h1, Ne.symm h1, hi]
    · simp [h1, h2, Ne.symm h1, Ne.symm h2]
theorem swp_perm (l : List (Int × Int)) (i j : Nat) (hi : i < l.length) (hj : j < l.length) : (swp l i j).Perm l := by
  unfold swp at'
  simp only [List.getD_eq_getElem?_getD, List.getElem?_eq_getElem hi, List.getElem?_eq_getElem hj, Option.getD_some]
  exact List.set_set_perm hi hj
/-- A heap: none is less than its parent. -/
def IsHeap (l : List (Int × Int)) : Prop := ∀ i, 0 < i → i < l.length → Le (at' l ((i - 1) / 2)) (at' l i)
/-- A heap but for k, which may be less than its parent. -/
def UpAt (l : List (Int × Int)) (k : Nat) : Prop :=
  (∀ i, 0 < i → i < l.length → i ≠ k → Le (at' l ((i - 1) / 2)) (at' l i)) ∧
  (0 < k → ∀ i, 0 < i → i < l.length → (i - 1) / 2 = k → Le (at' l ((k - 1) / 2)) (at' l i))
/-- A heap but for k, which may be greater than its children. -/
def DownAt (l : List (Int × Int)) (k : Nat) : Prop :=
  (∀ i, 0 < i → i < l.length → (i - 1) / 2 ≠ k → Le (at' l ((i - 1) / 2)) (at' l i)) ∧
  (0 < k → ∀ i, 0 < i → i < l.length → (i - 1) / 2 = k → Le (at' l ((k - 1) / 2)) (at' l i))
theorem up_done0 {l : List (Int × Int)} (h : UpAt l 0) : IsHeap l := fun i h0 hi => h.1 i h0 hi (by omega)
theorem up_done {l : List (Int × Int)} {k : Nat} (h : UpAt l k) (hle : Le (at' l ((k - 1) / 2)) (at' l k)) : IsHeap l := by
  intro i h0 hi
  by_cases hk : i = k
  · subst hk; exact hle
  · exact h.1 i h0 hi hk
theorem up_step {l : List (Int × Int)} {k : Nat} (h : UpAt l k) (hk0 : 0 < k) (hk : k < l.length) (hlt : Le (at' l k) (at' l ((k - 1) / 2))) : UpAt (swp l k ((k - 1) / 2)) ((k - 1) / 2) := by
  have hp : (k - 1) / 2 < l.length := by omega
  have hpk : (k - 1) / 2 ≠ k := by omega
  refine ⟨fun i h0 hi hne => ?_, fun hp0 i h0 hi hpar => ?_⟩
  · rw [swp_length] at hi
    rw [at_swp l _ _ _ hk hp, at_swp l _ _ _ hk hp, if_neg hne]
    by_cases hik : i = k
    · subst hik
      rw [if_pos rfl, if_pos rfl]
      exact hlt
    · rw [if_neg hik]
      by_cases c1 : (i - 1) / 2 = (k - 1) / 2
      · rw [if_pos c1]
        have := h.1 i h0 hi hik
        rw [c1] at this
        exact hlt.trans this
      · rw [if_neg c1]
        by_cases c2 : (i - 1) / 2 = k
        · rw [if_pos c2]
          exact h.2 hk0 i h0 hi c2
        · rw [if_neg c2]
          exact h.1 i h0 hi hik
  · rw [swp_length] at hi
    rw [at_swp l _ _ _ hk hp, at_swp l _ _ _ hk hp]
    have d1 : ((k - 1) / 2 - 1) / 2 ≠ (k - 1) / 2 := by omega
    have d2 : ((k - 1) / 2 - 1) / 2 ≠ k := by omega
    have d3 : i ≠ (k - 1) / 2 := by omega
    rw [if_neg d1, if_neg d2, if_neg d3]
    have hq := h.1 ((k - 1) / 2) hp0 hp hpk
    by_cases hik : i = k
    · rw [if_pos hik]; exact hq
    · rw [if_neg hik]
      have := h.1 i h0 hi hik
      rw [hpar] at this
      exact hq.trans this
theorem down_done {l : List (Int × Int)} {k : Nat} (h : DownAt l k) (hle : ∀ i, 0 < i → i < l.length → (i - 1) / 2 = k → Le (at' l k) (at' l i)) : IsHeap l := by
  intro i h0 hi
  by_cases hk : (i - 1) / 2 = k
  · rw [hk]; exact hle i h0 hi hk
  · exact h.1 i h0 hi hk
theorem down_step {l : List (Int × Int)} {k c : Nat} (h : DownAt l k) (hc0 : 0 < c) (hc : c < l.length) (hpar : (c - 1) / 2 = k) (hlt : Le (at' l c) (at' l k))
    (hleast : ∀ i, 0 < i → i < l.length → (i - 1) / 2 = k → Le (at' l c) (at' l i)) : DownAt (swp l k c) c := by
  have hk : k < l.length := by omega
  refine ⟨fun i h0 hi hne => ?_, fun hp0 i h0 hi hpi => ?_⟩
  · rw [swp_length] at hi
    rw [at_swp l _ _ _ hk hc, at_swp l _ _ _ hk hc, if_neg hne]
    by_cases c1 : (i - 1) / 2 = k
    · rw [if_pos c1]
      have d1 : i ≠ k := by omega
      by_cases c2 : i = c
      · rw [if_pos c2]; exact hlt
      · rw [if_neg c2, if_neg d1]
        exact hleast i h0 hi c1
    · rw [if_neg c1]
      have d1 : i ≠ c := by intro e; subst e; exact c1 hpar
      rw [if_neg d1]
      by_cases c2 : i = k
      · rw [if_pos c2]
        have := h.2 (by omega) c hc0 hc hpar
        rw [← c2] at this
        exact this
      · rw [if_neg c2]
        exact h.1 i h0 hi c1
  · rw [swp_length] at hi
    rw [at_swp l _ _ _ hk hc, at_swp l _ _ _ hk hc, hpar]
    have d1 : k ≠ c := by omega
    have d2 : i ≠ c := by omega
    have d3 : i ≠ k := by omega
    rw [if_neg d1, if_pos rfl, if_neg d2, if_neg d3]
    have := h.1 i h0 hi (by omega)
    rw [hpi] at this
    exact this
theorem heap_least {l : List (Int × Int)} (h : IsHeap l) : ∀ i, i < l.length → Le (at' l 0) (at' l i) := by
  intro i
  induction i using Nat.strongRecOn with
  | ind i ih =>
    intro hi
    by_cases h0 : i = 0
    · subst h0; exact Le.refl _
    · exact (ih ((i - 1) / 2) (by omega) (by omega)).trans (h i (by omega) hi)
end Go.Proofs.Ytdgihpegdcoilaa.Hp
