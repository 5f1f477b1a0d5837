/-
  Plain trees of edges: taken one behind the other if they join something. No Go in sight.
-/
import Derived.Test.YtdgihpegdcoilaaUf
import Derived.Test.YtdgihpegdcoilaaNm
import Derived.Test.YtdgihpegdcoilaaHq
namespace Go.Proofs.Ytdgihpegdcoilaa.Kk
set_option linter.unusedSimpArgs false
open Un.Uf Nm

theorem rev_ind {α : Type} {P : List α → Prop} (h0 : P []) (h1 : ∀ l a, P l → P (l ++ [a])) (l : List α) : P l := by
  have h : ∀ l : List α, P l.reverse := by
    intro l
    induction l with
    | nil => exact h0
    | cons a l ih => rw [List.reverse_cons]; exact h1 _ _ ih
  have := h l.reverse
  rwa [List.reverse_reverse] at this

/-- The two ends of edge i. -/
def en (es : List E) (i : Nat) : Int × Int := ((at3 es i).1, (at3 es i).2.1)
def pl (es : List E) (l : List Nat) : List (Int × Int) := l.map (en es)
theorem pl_snoc (es : List E) (l : List Nat) (i : Nat) : pl es (l ++ [i]) = pl es l ++ [en es i] := by simp [pl]
theorem pl_length (es : List E) (l : List Nat) : (pl es l).length = l.length := by simp [pl]
/-- What edge i costs. -/
def cs (es : List E) (i : Nat) : Int := (at3 es i).2.2

theorem jn_mono {l l' : List (Int × Int)} (h : ∀ p, p ∈ l → p ∈ l') {a b : Nat} (e : grp l a = grp l b) : grp l' a = grp l' b := by
  have hr : Resp (grp l') l := fun p hp => (good_grp l').resp p (h p hp)
  have h1 := (good_grp l).inv (grp l') hr a
  have h2 := (good_grp l).inv (grp l') hr b
  rw [← h1, ← h2, e]
theorem grp_eq {l l' : List (Int × Int)} (h1 : ∀ p, p ∈ l → grp l' p.1.toNat = grp l' p.2.toNat) (h2 : ∀ p, p ∈ l' → grp l p.1.toNat = grp l p.2.toNat) : grp l' = grp l := by
  funext x
  refine Good.uniq (good_grp l') ⟨(good_grp l).le, h2, fun F hF x => ?_⟩ x
  have k1 : ∀ x, F (grp l' x) = F x := (good_grp l').inv F hF
  refine (good_grp l).inv F (fun p hp => ?_) x
  rw [← k1 p.1.toNat, ← k1 p.2.toNat, h1 p hp]
theorem grp_sub {l l' : List (Int × Int)} (h1 : ∀ p, p ∈ l → p ∈ l') (h2 : ∀ p, p ∈ l' → grp l p.1.toNat = grp l p.2.toNat) : grp l' = grp l :=
  grp_eq (fun p hp => (good_grp l').resp p (h1 p hp)) h2
theorem grp_perm {l l' : List (Int × Int)} (h : ∀ p, p ∈ l ↔ p ∈ l') : grp l = grp l' :=
  grp_eq (fun p hp => (good_grp l).resp p ((h p).2 hp)) (fun p hp => (good_grp l').resp p ((h p).1 hp))

/-- One edge more is taken, if it joins something. -/
def kst (es : List E) (T : List Nat) (i : Nat) : List Nat :=
  if grp (pl es T) (en es i).1.toNat ≠ grp (pl es T) (en es i).2.toNat then T ++ [i] else T
def kru (es : List E) (l : List Nat) : List Nat := l.foldl (kst es) []
theorem kru_nil (es : List E) : kru es [] = [] := rfl
theorem kru_snoc (es : List E) (l : List Nat) (i : Nat) : kru es (l ++ [i]) = kst es (kru es l) i := by unfold kru; rw [List.foldl_append]; rfl
theorem kru_mem (es : List E) (l : List Nat) : ∀ x, x ∈ kru es l → x ∈ l := by
  induction l using rev_ind with
  | h0 => intro x h; exact h
  | h1 l a ih =>
    intro x h
    rw [kru_snoc] at h
    unfold kst at h
    split at h
    · simp only [List.mem_append, List.mem_singleton] at h ⊢
      rcases h with h | h
      · exact .inl (ih x h)
      · exact .inr h
    · exact List.mem_append.2 (.inl (ih x h))
theorem kru_length (es : List E) (l : List Nat) : (kru es l).length ≤ l.length := by
  induction l using rev_ind with
  | h0 => exact Nat.le_refl _
  | h1 l a ih => rw [kru_snoc]; unfold kst; split <;> simp <;> omega
/-- What is taken joins what all join. -/
theorem kru_grp (es : List E) (l : List Nat) : grp (pl es (kru es l)) = grp (pl es l) := by
  induction l using rev_ind with
  | h0 => rfl
  | h1 l a ih =>
    rw [kru_snoc, pl_snoc, grp_snoc, ← ih]
    unfold kst
    split
    · rw [pl_snoc, grp_snoc]
    · rename_i h
      have h : grp (pl es (kru es l)) (en es a).1.toNat = grp (pl es (kru es l)) (en es a).2.toNat := by simpa using h
      funext x
      rw [jn_same _ _ _ _ h]

/-- No one of them joins what those ahead of it join. -/
def Ind (l : List (Int × Int)) : Prop := ∀ p x s, l = p ++ x :: s → grp p x.1.toNat ≠ grp p x.2.toNat
theorem ind_nil : Ind [] := fun p x s h => by simp at h
theorem ind_snoc {l : List (Int × Int)} {x : Int × Int} (h : Ind l) (hx : grp l x.1.toNat ≠ grp l x.2.toNat) : Ind (l ++ [x]) := by
  intro p y s e
  rcases List.append_eq_append_iff.1 e with ⟨a, h1, h2⟩ | ⟨a, h1, h2⟩
  · cases a with
    | nil =>
      rw [List.append_nil] at h1
      simp at h2
      rw [h1, ← h2.1]; exact hx
    | cons b t =>
      simp at h2
  · cases a with
    | nil =>
      rw [List.append_nil] at h1
      simp at h2
      rw [← h1, h2.1]; exact hx
    | cons b t =>
      simp only [List.cons_append, List.cons.injEq] at h2
      obtain ⟨rfl, h2⟩ := h2
      exact h p y t h1
theorem kru_ind (es : List E) (l : List Nat) : Ind (pl es (kru es l)) := by
  induction l using rev_ind with
  | h0 => exact ind_nil
  | h1 l a ih =>
    rw [kru_snoc]; unfold kst; split
    · rename_i h; rw [pl_snoc]; exact ind_snoc ih h
    · exact ih
theorem ind_pre {l r : List (Int × Int)} (h : Ind (l ++ r)) : Ind l := fun p x s e => h p x (s ++ r) (by rw [e]; simp)
theorem many_id (n : Nat) : many n id = n := by
  have : ∀ n, cnt (fun x => x == id x) n = n := by
    intro n
    induction n with
    | zero => rfl
    | succ n ih => unfold cnt; rw [ih]; simp
  exact this n
/-- With none too many each one makes one group less. -/
theorem ind_many {n : Nat} {l : List (Int × Int)} (ok : Ok n l) (h : Ind l) : many n (grp l) + l.length = n := by
  induction l using rev_ind with
  | h0 => exact many_id n
  | h1 l x ih =>
    have h1 := ih (fun p hp => ok p (by simp [hp])) (ind_pre h)
    have h2 := h l x [] rfl
    obtain ⟨o1, o2, o3, o4⟩ := ok x (by simp)
    have h3 := many_less (good_grp l).le (good_grp l).idem (a := x.1.toNat) (b := x.2.toNat) (n := n) (by omega) (by omega) h2
    rw [grp_snoc, List.length_append]
    simp only [List.length_singleton]
    omega
theorem many_mono {n : Nat} {l l' : List (Int × Int)} (h : ∀ p, p ∈ l → p ∈ l') : many n (grp l') ≤ many n (grp l) := by
  unfold many
  refine cnt_mono (fun x _ hx => ?_)
  have hx : x = grp l' x := by simpa using hx
  have hr : Resp (grp l') l := fun p hp => (good_grp l').resp p (h p hp)
  have h1 := (good_grp l).inv (grp l') hr x
  have h2 := (good_grp l).le x
  have h3 := (good_grp l').le (grp l x)
  simp
  omega
/-- At most so many. -/
theorem many_down {n : Nat} {l : List (Int × Int)} (x : Int × Int) (hx : 0 ≤ x.1 ∧ x.1 < n ∧ 0 ≤ x.2 ∧ x.2 < n) : many n (grp l) ≤ many n (grp (l ++ [x])) + 1 := by
  rw [grp_snoc]
  by_cases h : grp l x.1.toNat = grp l x.2.toNat
  · have : jn (grp l) x.1.toNat x.2.toNat = grp l := by funext y; exact jn_same _ _ _ _ h
    rw [this]; omega
  · have h3 := many_less (good_grp l).le (good_grp l).idem (a := x.1.toNat) (b := x.2.toNat) (n := n) (by omega) (by omega) h
    omega
theorem ind_of_many {n : Nat} {l : List (Int × Int)} (ok : Ok n l) (h : many n (grp l) + l.length = n) : Ind l := by
  induction l using rev_ind with
  | h0 => exact ind_nil
  | h1 l x ih =>
    have ok' : Ok n l := fun p hp => ok p (by simp [hp])
    have hx := ok x (by simp)
    have h1 := many_down (l := l) x hx
    rw [List.length_append] at h
    simp only [List.length_singleton] at h
    have h5 : n ≤ many n (grp l) + l.length := by
      clear h ih h1 hx ok
      induction l using rev_ind with
      | h0 => rw [show grp [] = id from rfl, many_id]; simp
      | h1 l y ih2 =>
        have := ih2 (fun p hp => ok' p (by simp [hp]))
        have := many_down (l := l) y (ok' y (by simp))
        rw [List.length_append]; simp only [List.length_singleton]; omega
    by_cases e : grp l x.1.toNat = grp l x.2.toNat
    · exfalso
      have h6 : grp (l ++ [x]) = grp l := by rw [grp_snoc]; funext y; exact jn_same _ _ _ _ e
      rw [h6] at h
      omega
    · refine ind_snoc (ih ok' ?_) e
      have h3 := many_less (good_grp l).le (good_grp l).idem (a := x.1.toNat) (b := x.2.toNat) (n := n) (by omega) (by omega) e
      rw [grp_snoc] at h
      omega
theorem ind_filter (es : List E) (q : Nat → Bool) (T : List Nat) (h : Ind (pl es T)) : Ind (pl es (T.filter q)) := by
  induction T using rev_ind with
  | h0 => exact ind_nil
  | h1 l a ih =>
    rw [pl_snoc] at h
    have h1 := ih (ind_pre h)
    rw [List.filter_append]
    by_cases hq : q a = true
    · rw [List.filter_cons_of_pos hq, List.filter_nil, pl_snoc]
      refine ind_snoc h1 (fun k => h _ _ [] rfl (jn_mono (fun p hp => ?_) k))
      obtain ⟨x, hx, rfl⟩ := List.mem_map.1 hp
      exact List.mem_map.2 ⟨x, (List.mem_filter.1 hx).1, rfl⟩
    · rw [List.filter_cons_of_neg hq, List.filter_nil, List.append_nil]; exact h1
theorem many_joins {n : Nat} {l l' : List (Int × Int)} (h : ∀ p, p ∈ l → grp l' p.1.toNat = grp l' p.2.toNat) : many n (grp l') ≤ many n (grp l) := by
  unfold many
  refine cnt_mono (fun x _ hx => ?_)
  have hx : x = grp l' x := by simpa using hx
  have h1 := (good_grp l).inv (grp l') h x
  have h2 := (good_grp l).le x
  have h3 := (good_grp l').le (grp l x)
  simp
  omega
theorem kru_more (es : List E) (l r : List Nat) : ∀ x, x ∈ kru es l → x ∈ kru es (l ++ r) := by
  induction r using rev_ind with
  | h0 => intro x h; simpa using h
  | h1 r a ih =>
    intro x h
    rw [← List.append_assoc, kru_snoc]
    unfold kst
    split
    · exact List.mem_append.2 (.inl (ih x h))
    · exact ih x h

/-- All edges with what they cost and their numbers. -/
def prc (es : List E) : List (Int × Int) := (List.range es.length).map (fun i => (cs es i, (i : Int)))
theorem prc_length (es : List E) : (prc es).length = es.length := by simp [prc]
/-- Their numbers, those that cost less ahead. -/
def ids (es : List E) : List Nat := (So.Hq.srt (prc es)).map (fun p => p.2.toNat)
theorem ids_length (es : List E) : (ids es).length = es.length := by unfold ids; rw [List.length_map, So.Hq.srt_length, prc_length]
theorem ids_perm (es : List E) : (ids es).Perm (List.range es.length) := by
  have h := (So.Hq.srt_perm (prc es)).map (fun p : Int × Int => p.2.toNat)
  have e : (prc es).map (fun p : Int × Int => p.2.toNat) = List.range es.length := by
    unfold prc; rw [List.map_map]
    conv => rhs; rw [← List.map_id (List.range es.length)]
    apply List.map_congr_left
    intro i _; simp
  rw [e] at h; exact h
theorem ids_mem (es : List E) (i : Nat) : i ∈ ids es ↔ i < es.length := by rw [(ids_perm es).mem_iff]; simp
theorem srt_of {es : List E} {p : Int × Int} (h : p ∈ So.Hq.srt (prc es)) : p = (cs es p.2.toNat, (p.2.toNat : Int)) ∧ p.2.toNat < es.length := by
  have h1 := (So.Hq.srt_perm (prc es)).mem_iff.1 h
  unfold prc at h1
  obtain ⟨i, hi, rfl⟩ := List.mem_map.1 h1
  simp at hi
  exact ⟨by simp, by simpa using hi⟩
theorem ids_sorted (es : List E) : (ids es).Pairwise (fun i j => cs es i ≤ cs es j) := by
  unfold ids
  rw [List.pairwise_map]
  refine List.Pairwise.imp_of_mem (fun {p q} hp hq h => ?_) (So.Hq.srt_sorted (prc es))
  have e1 := (srt_of hp).1
  have e2 := (srt_of hq).1
  unfold So.Hq.Le at h
  have k1 : p.1 = cs es p.2.toNat := congrArg Prod.fst e1
  have k2 : q.1 = cs es q.2.toNat := congrArg Prod.fst e2
  omega
theorem srt_at (es : List E) (k : Nat) (h : k < es.length) : So.Hq.at' (So.Hq.srt (prc es)) k = (cs es ((ids es).getD k 0), (((ids es).getD k 0 : Nat) : Int)) ∧ (ids es).getD k 0 < es.length := by
  have hl : k < (So.Hq.srt (prc es)).length := by rw [So.Hq.srt_length, prc_length]; exact h
  have e1 : So.Hq.at' (So.Hq.srt (prc es)) k = (So.Hq.srt (prc es))[k] := by unfold So.Hq.at'; simp [List.getD_eq_getElem?_getD, hl]
  have e2 : (ids es).getD k 0 = ((So.Hq.srt (prc es))[k]).2.toNat := by
    unfold ids
    rw [List.getD_eq_getElem?_getD, List.getElem?_map, List.getElem?_eq_getElem hl]; rfl
  obtain ⟨h1, h2⟩ := srt_of (List.getElem_mem hl)
  rw [e1, e2]
  exact ⟨h1, h2⟩
theorem ids_take (es : List E) (k : Nat) (h : k < es.length) : (ids es).take (k + 1) = (ids es).take k ++ [(ids es).getD k 0] := by
  have hl : k < (ids es).length := by rw [ids_length]; exact h
  rw [List.take_add_one, List.getElem?_eq_getElem hl]
  simp [List.getD_eq_getElem?_getD, List.getElem?_eq_getElem hl]
/-- The tree. -/
def tree (es : List E) : List Nat := kru es (ids es)
theorem tree_lt (es : List E) : ∀ x, x ∈ tree es → x < es.length := fun x h => (ids_mem es x).1 (kru_mem es _ x h)
theorem gn_ok {n : Int} {es : List E} (h : Gn n es) {l : List Nat} (hl : ∀ x, x ∈ l → x < es.length) : Ok n.toNat (pl es l) := by
  intro p hp
  obtain ⟨x, hx, rfl⟩ := List.mem_map.1 hp
  have := h.ok _ (mem_at (hl x hx))
  unfold en
  simp only
  omega
theorem gn_en {n : Int} {es : List E} (h : Gn n es) {i : Nat} (hi : i < es.length) : 0 ≤ (en es i).1 ∧ (en es i).1 < n ∧ 0 ≤ (en es i).2 ∧ (en es i).2 < n := by
  have := h.ok _ (mem_at hi)
  unfold en
  simp only
  omega
/-- What is taken up to some cost joins all that edges of that cost do. -/
theorem tree_joins (es : List E) (c : Int) (i : Nat) (hi : i < es.length) (hc : cs es i ≤ c) :
    grp (pl es ((tree es).filter (fun j => decide (cs es j ≤ c)))) (en es i).1.toNat = grp (pl es ((tree es).filter (fun j => decide (cs es j ≤ c)))) (en es i).2.toNat := by
  obtain ⟨p, s, hps⟩ := List.append_of_mem ((ids_mem es i).2 hi)
  have h1 : grp (pl es (kru es (p ++ [i]))) (en es i).1.toNat = grp (pl es (kru es (p ++ [i]))) (en es i).2.toNat := by
    rw [kru_grp]; exact (good_grp _).resp _ (List.mem_map.2 ⟨i, by simp, rfl⟩)
  refine jn_mono (fun q hq => ?_) h1
  obtain ⟨x, hx, rfl⟩ := List.mem_map.1 hq
  refine List.mem_map.2 ⟨x, List.mem_filter.2 ⟨?_, ?_⟩, rfl⟩
  · have := kru_more es (p ++ [i]) s x hx
    unfold tree
    rw [hps]; simpa using this
  · have hx2 := kru_mem es _ x hx
    have hsrt := ids_sorted es
    rw [hps] at hsrt
    simp only [List.mem_append, List.mem_singleton] at hx2
    simp only [decide_eq_true_eq]
    rcases hx2 with hx2 | rfl
    · have := (List.pairwise_append.1 hsrt).2.2 x hx2 i (by simp)
      omega
    · exact hc
/-- No others of which none is too many are more up to some cost. -/
theorem count_le {n : Int} {es : List E} (hg : Gn n es) (O : List Nat) (hO : ∀ x, x ∈ O → x < es.length) (hi : Ind (pl es O)) (c : Int) :
    (O.filter (fun j => decide (cs es j ≤ c))).length ≤ ((tree es).filter (fun j => decide (cs es j ≤ c))).length := by
  have h1 := ind_many (n := n.toNat) (gn_ok hg (l := O.filter (fun j => decide (cs es j ≤ c))) (fun x hx => hO x (List.mem_filter.1 hx).1)) (ind_filter es _ O hi)
  have h2 := ind_many (n := n.toNat) (gn_ok hg (l := (tree es).filter (fun j => decide (cs es j ≤ c))) (fun x hx => tree_lt es x (List.mem_filter.1 hx).1)) (ind_filter es _ _ (kru_ind es _))
  have h3 : many n.toNat (grp (pl es ((tree es).filter (fun j => decide (cs es j ≤ c))))) ≤ many n.toNat (grp (pl es (O.filter (fun j => decide (cs es j ≤ c))))) := by
    refine many_joins (fun p hp => ?_)
    obtain ⟨x, hx, rfl⟩ := List.mem_map.1 hp
    obtain ⟨k1, k2⟩ := List.mem_filter.1 hx
    exact tree_joins es c x (hO x k1) (by simpa using k2)
  rw [pl_length] at h1 h2
  omega

/-! ### What costs least -/
def ssum (f : Nat → Int) : Nat → Int
  | 0 => 0
  | m + 1 => ssum f m + f m
theorem ssum_le {f g : Nat → Int} (h : ∀ j, f j ≤ g j) : ∀ m, ssum f m ≤ ssum g m
  | 0 => Int.le_refl _
  | m + 1 => by have := ssum_le h m; have := h m; unfold ssum; omega
theorem ssum_add (f g : Nat → Int) : ∀ m, ssum (fun j => f j + g j) m = ssum f m + ssum g m
  | 0 => rfl
  | m + 1 => by have := ssum_add f g m; unfold ssum; omega
theorem ssum_step (x : Nat) : ∀ m, ssum (fun j => if x ≤ j then 1 else 0) m = if x ≤ m then (m : Int) - x else 0
  | 0 => by unfold ssum; split <;> omega
  | m + 1 => by
    have := ssum_step x m
    unfold ssum
    rw [this]
    by_cases h1 : x ≤ m
    · rw [if_pos h1, if_pos h1, if_pos (by omega)]; push_cast; omega
    · rw [if_neg h1, if_neg h1]; split <;> omega
/-- What they cost together. -/
def sm (es : List E) (l : List Nat) : Int := (l.map (cs es)).sum
theorem sm_snoc (es : List E) (l : List Nat) (i : Nat) : sm es (l ++ [i]) = sm es l + cs es i := by simp [sm]
theorem sm_layers {n : Int} {es : List E} (hg : Gn n es) (T : List Nat) (hT : ∀ x, x ∈ T → x < es.length) :
    ∀ M : Nat, M = 20000 → sm es T = 10000 * T.length - ssum (fun j => ((T.filter (fun i => decide (cs es i ≤ (j : Int) - 10000))).length : Int)) M := by
  intro M hM
  induction T using rev_ind with
  | h0 =>
    have : ∀ m, ssum (fun j => ((([] : List Nat).filter (fun i => decide (cs es i ≤ (j : Int) - 10000))).length : Int)) m = 0 := by
      intro m; induction m with
      | zero => rfl
      | succ m ih => unfold ssum; rw [ih]; simp
    rw [this]; simp [sm]
  | h1 l a ih =>
    have h1 := ih (fun x hx => hT x (by simp [hx]))
    have hb := hg.ok _ (mem_at (hT a (by simp)))
    obtain ⟨y, hy⟩ : ∃ y : Nat, cs es a = (y : Int) - 10000 := ⟨(cs es a + 10000).toNat, by unfold cs; omega⟩
    have hy2 : y ≤ M := by unfold cs at hy; omega
    have e : (fun j : Nat => (((l ++ [a]).filter (fun i => decide (cs es i ≤ (j : Int) - 10000))).length : Int)) = fun j : Nat => ((l.filter (fun i => decide (cs es i ≤ (j : Int) - 10000))).length : Int) + (if y ≤ j then 1 else 0) := by
      funext j
      rw [List.filter_append, List.length_append]
      by_cases h : y ≤ j
      · rw [List.filter_cons_of_pos (by simp; omega)]; simp [h]
      · rw [List.filter_cons_of_neg (by simp; omega)]; simp [h]
    rw [e, ssum_add, ssum_step, if_pos hy2, sm_snoc, h1, hy, List.length_append]
    simp only [List.length_singleton]
    push_cast
    omega
theorem tree_least {n : Int} {es : List E} (hg : Gn n es) (O : List Nat) (hO : ∀ x, x ∈ O → x < es.length) (hi : Ind (pl es O)) (hl : O.length = (tree es).length) : sm es (tree es) ≤ sm es O := by
  obtain ⟨M, hM⟩ : ∃ M : Nat, M = 20000 := ⟨_, rfl⟩
  rw [sm_layers hg _ (tree_lt es) M hM, sm_layers hg _ hO M hM, hl]
  have := ssum_le (f := fun j => ((O.filter (fun i => decide (cs es i ≤ (j : Int) - 10000))).length : Int)) (g := fun j => (((tree es).filter (fun i => decide (cs es i ≤ (j : Int) - 10000))).length : Int)) (fun j => Int.ofNat_le.2 (count_le hg O hO hi _)) M
  omega
/-- As many as join all. -/
theorem tree_grp (es : List E) : grp (pl es (tree es)) = grp (pl es (List.range es.length)) := by
  unfold tree
  rw [kru_grp]
  exact grp_perm (fun p => by unfold pl; simp only [List.mem_map, (ids_perm es).mem_iff])
theorem same_length {n : Int} {es : List E} (hg : Gn n es) (O : List Nat) (hO : ∀ x, x ∈ O → x < es.length) (hi : Ind (pl es O)) (hj : grp (pl es O) = grp (pl es (List.range es.length))) : O.length = (tree es).length := by
  have h1 := ind_many (n := n.toNat) (gn_ok hg hO) hi
  have h2 := ind_many (n := n.toNat) (gn_ok hg (tree_lt es)) (kru_ind es _)
  have h3 : many n.toNat (grp (pl es (tree es))) = many n.toNat (grp (pl es O)) := by rw [tree_grp, hj]
  have h2 : many n.toNat (grp (pl es (tree es))) + (pl es (tree es)).length = n.toNat := h2
  rw [pl_length] at h1 h2
  omega
end Go.Proofs.Ytdgihpegdcoilaa.Kk
