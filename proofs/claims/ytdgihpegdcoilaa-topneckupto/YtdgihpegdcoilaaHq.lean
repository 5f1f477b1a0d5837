/-
  Plain lists of pairs: their order, heaps as lists, sorting. No Go in sight.
-/
import Derived.KernelRfl
namespace Go.Proofs.Ytdgihpegdcoilaa.So.Hq
set_option linter.unusedSimpArgs false

/-- No greater: by the first number, then by the second. -/
def Le (p q : Int × Int) : Prop := p.1 < q.1 ∨ (p.1 = q.1 ∧ p.2 ≤ q.2)
/-- Less, as the program tests it. -/
def ltb (p q : Int × Int) : Bool := if p.1 ≠ q.1 then decide (p.1 < q.1) else decide (p.2 < q.2)

theorem ltb_true {p q : Int × Int} (h : ltb p q = true) : Le p q := by
  unfold ltb at h; unfold Le
  split at h <;> simp at h <;> omega
theorem ltb_false {p q : Int × Int} (h : ltb p q = false) : Le q p := by
  unfold ltb at h; unfold Le
  split at h <;> simp at h <;> omega
theorem Le.refl (p : Int × Int) : Le p p := by unfold Le; omega
theorem Le.trans {p q r : Int × Int} (h1 : Le p q) (h2 : Le q r) : Le p r := by unfold Le at *; omega
theorem Le.antisymm {p q : Int × Int} (h1 : Le p q) (h2 : Le q p) : p = q := by
  unfold Le at *
  apply Prod.ext <;> omega
theorem Le.total (p q : Int × Int) : Le p q ∨ Le q p := by unfold Le; omega

/-- Element number i. -/
def at' (l : List (Int × Int)) (i : Nat) : Int × Int := l.getD i (0, 0)
/-- Two elements exchanged. -/
def swp (l : List (Int × Int)) (i j : Nat) : List (Int × Int) := (l.set i (at' l j)).set j (at' l i)

theorem swp_length (l : List (Int × Int)) (i j : Nat) : (swp l i j).length = l.length := by simp [swp]

theorem at_swp (l : List (Int × Int)) (i j k : Nat) (hi : i < l.length) (hj : j < l.length) :
    at' (swp l i j) k = if k = j then at' l i else if k = i then at' l j else at' l k := by
  unfold at' swp at'
  simp only [List.getD_eq_getElem?_getD, List.getElem?_set]
  by_cases h1 : k = j
  · subst h1; simp [hj]
  · by_cases h2 : k = i
    · subst h2; simp [h1, Ne.symm h1, hi]
    · simp [h1, h2, Ne.symm h1, Ne.symm h2]

theorem swp_perm (l : List (Int × Int)) (i j : Nat) (hi : i < l.length) (hj : j < l.length) : (swp l i j).Perm l := by
  unfold swp at'
  simp only [List.getD_eq_getElem?_getD, List.getElem?_eq_getElem hi, List.getElem?_eq_getElem hj, Option.getD_some]
  exact List.set_set_perm hi hj

/-- A heap: none is less than its parent. -/
def IsHeap (l : List (Int × Int)) : Prop := ∀ i, 0 < i → i < l.length → Le (at' l ((i - 1) / 2)) (at' l i)
/-- A heap but for k, which may be less than its parent. -/
def UpAt (l : List (Int × Int)) (k : Nat) : Prop :=
  (∀ i, 0 < i → i < l.length → i ≠ k → Le (at' l ((i - 1) / 2)) (at' l i)) ∧
  (0 < k → ∀ i, 0 < i → i < l.length → (i - 1) / 2 = k → Le (at' l ((k - 1) / 2)) (at' l i))
/-- A heap but for k, which may be greater than its children. -/
def DownAt (l : List (Int × Int)) (k : Nat) : Prop :=
  (∀ i, 0 < i → i < l.length → (i - 1) / 2 ≠ k → Le (at' l ((i - 1) / 2)) (at' l i)) ∧
  (0 < k → ∀ i, 0 < i → i < l.length → (i - 1) / 2 = k → Le (at' l ((k - 1) / 2)) (at' l i))

theorem up_done0 {l : List (Int × Int)} (h : UpAt l 0) : IsHeap l := fun i h0 hi => h.1 i h0 hi (by omega)
theorem up_done {l : List (Int × Int)} {k : Nat} (h : UpAt l k) (hle : Le (at' l ((k - 1) / 2)) (at' l k)) : IsHeap l := by
  intro i h0 hi
  by_cases hk : i = k
  · subst hk; exact hle
  · exact h.1 i h0 hi hk
theorem up_step {l : List (Int × Int)} {k : Nat} (h : UpAt l k) (hk0 : 0 < k) (hk : k < l.length) (hlt : Le (at' l k) (at' l ((k - 1) / 2))) : UpAt (swp l k ((k - 1) / 2)) ((k - 1) / 2) := by
  have hp : (k - 1) / 2 < l.length := by omega
  have hpk : (k - 1) / 2 ≠ k := by omega
  refine ⟨fun i h0 hi hne => ?_, fun hp0 i h0 hi hpar => ?_⟩
  · rw [swp_length] at hi
    rw [at_swp l _ _ _ hk hp, at_swp l _ _ _ hk hp, if_neg hne]
    by_cases hik : i = k
    · subst hik
      rw [if_pos rfl, if_pos rfl]
      exact hlt
    · rw [if_neg hik]
      by_cases c1 : (i - 1) / 2 = (k - 1) / 2
      · rw [if_pos c1]
        have := h.1 i h0 hi hik
        rw [c1] at this
        exact hlt.trans this
      · rw [if_neg c1]
        by_cases c2 : (i - 1) / 2 = k
        · rw [if_pos c2]
          exact h.2 hk0 i h0 hi c2
        · rw [if_neg c2]
          exact h.1 i h0 hi hik
  · rw [swp_length] at hi
    rw [at_swp l _ _ _ hk hp, at_swp l _ _ _ hk hp]
    have d1 : ((k - 1) / 2 - 1) / 2 ≠ (k - 1) / 2 := by omega
    have d2 : ((k - 1) / 2 - 1) / 2 ≠ k := by omega
    have d3 : i ≠ (k - 1) / 2 := by omega
    rw [if_neg d1, if_neg d2, if_neg d3]
    have hq := h.1 ((k - 1) / 2) hp0 hp hpk
    by_cases hik : i = k
    · rw [if_pos hik]; exact hq
    · rw [if_neg hik]
      have := h.1 i h0 hi hik
      rw [hpar] at this
      exact hq.trans this

theorem down_done {l : List (Int × Int)} {k : Nat} (h : DownAt l k) (hle : ∀ i, 0 < i → i < l.length → (i - 1) / 2 = k → Le (at' l k) (at' l i)) : IsHeap l := by
  intro i h0 hi
  by_cases hk : (i - 1) / 2 = k
  · rw [hk]; exact hle i h0 hi hk
  · exact h.1 i h0 hi hk
theorem down_step {l : List (Int × Int)} {k c : Nat} (h : DownAt l k) (hc0 : 0 < c) (hc : c < l.length) (hpar : (c - 1) / 2 = k) (hlt : Le (at' l c) (at' l k))
    (hleast : ∀ i, 0 < i → i < l.length → (i - 1) / 2 = k → Le (at' l c) (at' l i)) : DownAt (swp l k c) c := by
  have hk : k < l.length := by omega
  refine ⟨fun i h0 hi hne => ?_, fun hp0 i h0 hi hpi => ?_⟩
  · rw [swp_length] at hi
    rw [at_swp l _ _ _ hk hc, at_swp l _ _ _ hk hc, if_neg hne]
    by_cases c1 : (i - 1) / 2 = k
    · rw [if_pos c1]
      have d1 : i ≠ k := by omega
      by_cases c2 : i = c
      · rw [if_pos c2]; exact hlt
      · rw [if_neg c2, if_neg d1]
        exact hleast i h0 hi c1
    · rw [if_neg c1]
      have d1 : i ≠ c := by intro e; subst e; exact c1 hpar
      rw [if_neg d1]
      by_cases c2 : i = k
      · rw [if_pos c2]
        have := h.2 (by omega) c hc0 hc hpar
        rw [← c2] at this
        exact this
      · rw [if_neg c2]
        exact h.1 i h0 hi c1
  · rw [swp_length] at hi
    rw [at_swp l _ _ _ hk hc, at_swp l _ _ _ hk hc, hpar]
    have d1 : k ≠ c := by omega
    have d2 : i ≠ c := by omega
    have d3 : i ≠ k := by omega
    rw [if_neg d1, if_pos rfl, if_neg d2, if_neg d3]
    have := h.1 i h0 hi (by omega)
    rw [hpi] at this
    exact this

theorem heap_least {l : List (Int × Int)} (h : IsHeap l) : ∀ i, i < l.length → Le (at' l 0) (at' l i) := by
  intro i
  induction i using Nat.strongRecOn with
  | ind i ih =>
    intro hi
    by_cases h0 : i = 0
    · subst h0; exact Le.refl _
    · exact (ih ((i - 1) / 2) (by omega) (by omega)).trans (h i (by omega) hi)

/-- x put in its place. -/
def ins (x : Int × Int) : List (Int × Int) → List (Int × Int)
  | [] => [x]
  | y :: r => if ltb x y then x :: y :: r else y :: ins x r
/-- Sorted, by putting each in its place. -/
def srt (l : List (Int × Int)) : List (Int × Int) := l.foldl (fun o x => ins x o) []

theorem ins_perm (x : Int × Int) (l : List (Int × Int)) : (ins x l).Perm (x :: l) := by
  induction l with
  | nil => exact List.Perm.refl _
  | cons y r ih =>
    simp only [ins]
    split
    · exact List.Perm.refl _
    · exact (ih.cons y).trans (List.Perm.swap x y r)
theorem ins_sorted (x : Int × Int) (l : List (Int × Int)) (h : l.Pairwise Le) : (ins x l).Pairwise Le := by
  induction l with
  | nil => simp [ins]
  | cons y r ih =>
    obtain ⟨h1, h2⟩ := List.pairwise_cons.1 h
    simp only [ins]
    split
    · rename_i hlt
      have hx := ltb_true hlt
      refine List.pairwise_cons.2 ⟨fun z hz => ?_, h⟩
      rcases List.mem_cons.1 hz with rfl | hz
      · exact hx
      · exact hx.trans (h1 z hz)
    · rename_i hlt
      have hx := ltb_false (by simpa using hlt)
      refine List.pairwise_cons.2 ⟨fun z hz => ?_, ih h2⟩
      rcases List.mem_cons.1 ((ins_perm x r).mem_iff.1 hz) with rfl | hz
      · exact hx
      · exact h1 z hz
theorem fold_perm (l o : List (Int × Int)) : (l.foldl (fun o x => ins x o) o).Perm (o ++ l) := by
  induction l generalizing o with
  | nil => simp
  | cons x r ih =>
    simp only [List.foldl_cons]
    refine (ih _).trans ?_
    refine ((ins_perm x o).append_right r).trans ?_
    exact List.perm_middle.symm
theorem fold_sorted (l o : List (Int × Int)) (h : o.Pairwise Le) : (l.foldl (fun o x => ins x o) o).Pairwise Le := by
  induction l generalizing o with
  | nil => exact h
  | cons x r ih => exact ih _ (ins_sorted x o h)
theorem srt_perm (l : List (Int × Int)) : (srt l).Perm l := by unfold srt; simpa using fold_perm l []
theorem srt_sorted (l : List (Int × Int)) : (srt l).Pairwise Le := fold_sorted l [] List.Pairwise.nil
theorem srt_length (l : List (Int × Int)) : (srt l).length = l.length := (srt_perm l).length_eq
theorem sorted_unique {a b : List (Int × Int)} (ha : a.Pairwise Le) (hb : b.Pairwise Le) (h : a.Perm b) : a = b :=
  List.Perm.eq_of_pairwise (fun _ _ _ _ h1 h2 => h1.antisymm h2) ha hb h

/-- What is taken out in order, all of it no greater than what is left, is the beginning of what is sorted. -/
theorem taken {o h l : List (Int × Int)} (ho : o.Pairwise Le) (hle : ∀ x ∈ o, ∀ y ∈ h, Le x y) (hp : (o ++ h).Perm l) : o = (srt l).take o.length := by
  have : o ++ srt h = srt l := by
    refine sorted_unique ?_ (srt_sorted l) ?_
    · refine List.pairwise_append.2 ⟨ho, srt_sorted h, fun x hx y hy => hle x hx y ((srt_perm h).mem_iff.1 hy)⟩
    · exact (((srt_perm h).append_left o).trans hp).trans (srt_perm l).symm
  rw [← this, List.take_left]

end Go.Proofs.Ytdgihpegdcoilaa.So.Hq
