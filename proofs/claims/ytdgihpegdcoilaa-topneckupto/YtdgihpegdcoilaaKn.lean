/-
  Plain necks: where two places are joined first, and what is the dearest edge that must be there. No Go in sight.
-/
import Derived.Test.YtdgihpegdcoilaaKk
namespace Go.Proofs.Ytdgihpegdcoilaa.Kk
set_option linter.unusedSimpArgs false
open Un.Uf Nm

/-- Joined by the first k. -/
abbrev jd (es : List E) (a b k : Nat) : Prop := grp (pl es ((ids es).take k)) a = grp (pl es ((ids es).take k)) b
theorem jd_zero {es : List E} {a b : Nat} (h : a ≠ b) : ¬ jd es a b 0 := h
/-- The neck and the error. -/
def nk (es : List E) (a b : Nat) : Int × Int :=
  match (List.range es.length).find? (fun k => decide (jd es a b (k + 1))) with
  | none => (0, 5)
  | some k => (cs es ((ids es).getD k 0), 0)
theorem nk_none {es : List E} {a b : Nat} (h : ∀ k, k < es.length → ¬ jd es a b (k + 1)) : nk es a b = (0, 5) := by
  unfold nk
  rw [List.find?_eq_none.2 (fun k hk => by simpa using h k (by simpa using hk))]
theorem find_first {p : Nat → Bool} {n k : Nat} (hk : k < n) (hp : p k = true) (hl : ∀ j, j < k → p j = false) : (List.range n).find? p = some k := by
  induction n with
  | zero => omega
  | succ n ih =>
    rw [List.range_succ, List.find?_append]
    by_cases e : k < n
    · rw [ih e]; rfl
    · obtain rfl : k = n := by omega
      rw [List.find?_eq_none.2 (fun j hj => by simp [hl j (by simpa using hj)])]
      simp [hp]
theorem nk_some {es : List E} {a b k : Nat} (hk : k < es.length) (h : jd es a b (k + 1)) (hl : ∀ j, j ≤ k → ¬ jd es a b j) : nk es a b = (cs es ((ids es).getD k 0), 0) := by
  unfold nk
  rw [find_first hk (by simpa using h) (fun j hj => by simpa using hl (j + 1) (by omega))]
/-- Either nowhere, or somewhere first. -/
theorem nk_cases {es : List E} {a b : Nat} (hab : a ≠ b) : (nk es a b = (0, 5) ∧ ∀ k, k ≤ es.length → ¬ jd es a b k) ∨ ∃ k, k < es.length ∧ nk es a b = (cs es ((ids es).getD k 0), 0) ∧ jd es a b (k + 1) ∧ ∀ j, j ≤ k → ¬ jd es a b j := by
  have h : ∀ m, m ≤ es.length → (∀ j, j ≤ m → ¬ jd es a b j) ∨ ∃ k, k < m ∧ jd es a b (k + 1) ∧ ∀ j, j ≤ k → ¬ jd es a b j := by
    intro m
    induction m with
    | zero => intro _; exact .inl (fun j hj => by rw [show j = 0 by omega]; exact jd_zero hab)
    | succ m ih =>
      intro hm
      rcases ih (by omega) with ih | ⟨k, h1, h2, h3⟩
      · by_cases e : jd es a b (m + 1)
        · exact .inr ⟨m, by omega, e, ih⟩
        · left
          intro j hj
          rcases (show j ≤ m ∨ j = m + 1 by omega) with h | rfl
          · exact ih j h
          · exact e
      · exact .inr ⟨k, by omega, h2, h3⟩
  rcases h es.length (Nat.le_refl _) with h | ⟨k, h1, h2, h3⟩
  · exact .inl ⟨nk_none (fun k hk => h _ (by omega)), h⟩
  · exact .inr ⟨k, h1, nk_some h1 h2 h3, h2, h3⟩
/-- Where nothing is taken nothing turns. -/
theorem jd_same {es : List E} {a b k i x y : Nat} (hT : (ids es).take (k + 1) = (ids es).take k ++ [i]) (he : en es i = ((x : Int), (y : Int))) (hd : grp (pl es ((ids es).take k)) x = grp (pl es ((ids es).take k)) y) (h : ¬ jd es a b k) : ¬ jd es a b (k + 1) := by
  unfold jd at h ⊢
  rw [hT, pl_snoc, grp_snoc, he]
  simp only [Int.toNat_natCast]
  rw [jn_same _ _ _ _ hd, jn_same _ _ _ _ hd]; exact h

/-! ### The document's neck -/
def upl (es : List E) (c : Int) : List Nat := (List.range es.length).filter (fun i => decide (cs es i ≤ c))
/-- Joined by edges that cost no more than c. -/
def jc (es : List E) (a b : Nat) (c : Int) : Bool := decide (grp (pl es (upl es c)) a = grp (pl es (upl es c)) b)
def rn (es : List E) (a b : Nat) : Nat → Int × Int
  | 0 => (0, 5)
  | m + 1 => if jc es a b (cs es m) = true ∧ ((rn es a b m).2 ≠ 0 ∨ cs es m < (rn es a b m).1) then (cs es m, 0) else rn es a b m
theorem rn_is (es : List E) (a b m : Nat) : (rn es a b m = (0, 5) ∧ ∀ w, w < m → jc es a b (cs es w) = false) ∨ ∃ w, w < m ∧ rn es a b m = (cs es w, 0) ∧ jc es a b (cs es w) = true ∧ ∀ w', w' < m → jc es a b (cs es w') = true → cs es w ≤ cs es w' := by
  induction m with
  | zero => exact .inl ⟨rfl, fun w h => by omega⟩
  | succ m ih =>
    unfold rn
    rcases ih with ⟨h1, h2⟩ | ⟨w, h1, h2, h3, h4⟩
    · rw [h1]
      cases e : jc es a b (cs es m)
      · left
        rw [if_neg (by simp)]
        refine ⟨rfl, fun w hw => ?_⟩
        rcases (show w < m ∨ w = m by omega) with h | rfl
        · exact h2 w h
        · exact e
      · right
        rw [if_pos ⟨rfl, .inl (by decide)⟩]
        refine ⟨m, by omega, rfl, e, fun w' hw' hj => ?_⟩
        rcases (show w' < m ∨ w' = m by omega) with h | rfl
        · rw [h2 w' h] at hj; cases hj
        · exact Int.le_refl _
    · right
      rw [h2]
      by_cases e : jc es a b (cs es m) = true ∧ cs es m < cs es w
      · rw [if_pos ⟨e.1, .inr e.2⟩]
        refine ⟨m, by omega, rfl, e.1, fun w' hw' hj => ?_⟩
        rcases (show w' < m ∨ w' = m by omega) with h | rfl
        · have := h4 w' h hj; have := e.2; omega
        · exact Int.le_refl _
      · rw [if_neg (by simpa using e)]
        refine ⟨w, by omega, rfl, h3, fun w' hw' hj => ?_⟩
        rcases (show w' < m ∨ w' = m by omega) with h | rfl
        · exact h4 w' h hj
        · have : ¬ cs es w' < cs es w := fun k => e ⟨hj, k⟩
          omega
theorem ids_split (es : List E) (k : Nat) (h : k < es.length) : ids es = (ids es).take k ++ (ids es).getD k 0 :: (ids es).drop (k + 1) := by
  have hl : k < (ids es).length := by rw [ids_length]; exact h
  conv => lhs; rw [← List.take_append_drop k (ids es), List.drop_eq_getElem_cons hl]
  simp [List.getD_eq_getElem?_getD, hl]
theorem take_cheap {es : List E} {k : Nat} (h : k < es.length) : ∀ i, i ∈ (ids es).take (k + 1) → cs es i ≤ cs es ((ids es).getD k 0) := by
  intro i hi
  rw [ids_take es k h, List.mem_append, List.mem_singleton] at hi
  rcases hi with hi | rfl
  · have hs := ids_sorted es
    rw [ids_split es k h] at hs
    exact (List.pairwise_append.1 hs).2.2 i hi _ (by simp)
  · exact Int.le_refl _
theorem cheap_take {es : List E} {k i : Nat} (h : k < es.length) (hi : i < es.length) (hc : cs es i < cs es ((ids es).getD k 0)) : i ∈ (ids es).take k := by
  have hm := (ids_mem es i).2 hi
  have hs := ids_sorted es
  rw [ids_split es k h] at hm hs
  rw [List.mem_append, List.mem_cons] at hm
  have h2 := (List.pairwise_append.1 hs).2.1
  rw [List.pairwise_cons] at h2
  rcases hm with hm | rfl | hm
  · exact hm
  · omega
  · have := h2.1 i hm; omega
theorem mem_upl {es : List E} {c : Int} {i : Nat} : i ∈ upl es c ↔ i < es.length ∧ cs es i ≤ c := by unfold upl; simp [List.mem_filter]
theorem pl_mono {es : List E} {l l' : List Nat} (h : ∀ x, x ∈ l → x ∈ l') : ∀ p, p ∈ pl es l → p ∈ pl es l' := by
  intro p hp
  obtain ⟨x, hx, rfl⟩ := List.mem_map.1 hp
  exact List.mem_map.2 ⟨x, h x hx, rfl⟩
/-- Both necks are the same. -/
theorem rn_nk {es : List E} {a b : Nat} (hab : a ≠ b) : rn es a b es.length = nk es a b := by
  rcases nk_cases (es := es) hab with ⟨h1, h2⟩ | ⟨k, h1, h2, h3, h4⟩
  · rw [h1]
    rcases rn_is es a b es.length with ⟨r1, _⟩ | ⟨w, r1, r2, r3, r4⟩
    · exact r1
    · exfalso
      refine h2 es.length (Nat.le_refl _) ?_
      unfold jd
      rw [List.take_of_length_le (by rw [ids_length]; exact Nat.le_refl _)]
      exact jn_mono (pl_mono (fun x hx => (ids_mem es x).2 (mem_upl.1 hx).1)) (of_decide_eq_true r3)
  · have hid : (ids es).getD k 0 < es.length := (srt_at es k h1).2
    have hj : jc es a b (cs es ((ids es).getD k 0)) = true := by
      refine decide_eq_true (jn_mono (pl_mono (fun x hx => ?_)) h3)
      exact mem_upl.2 ⟨(ids_mem es x).1 (List.mem_of_mem_take hx), take_cheap h1 x hx⟩
    rw [h2]
    rcases rn_is es a b es.length with ⟨_, r2⟩ | ⟨w, r1, r2, r3, r4⟩
    · have := r2 _ hid; rw [hj] at this; cases this
    · rw [r2]
      have l1 := r4 _ hid hj
      have l2 : ¬ cs es w < cs es ((ids es).getD k 0) := by
        intro hlt
        refine h4 k (Nat.le_refl _) (jn_mono (pl_mono (fun x hx => ?_)) (of_decide_eq_true r3))
        obtain ⟨x1, x2⟩ := mem_upl.1 hx
        exact cheap_take h1 x1 (by omega)
      rw [show cs es w = cs es ((ids es).getD k 0) by omega]

/-! ### The dearest edge that must be there -/
theorem many_low {n : Nat} {l : List (Int × Int)} (ok : Ok n l) : n ≤ many n (grp l) + l.length := by
  induction l using rev_ind with
  | h0 => rw [show grp [] = id from rfl, many_id]; simp
  | h1 l y ih =>
    have := ih (fun p hp => ok p (by simp [hp]))
    have := many_down (l := l) y (ok y (by simp))
    rw [List.length_append]; simp only [List.length_singleton]; omega
theorem jn_swap {G : Nat → Nat} {a b x y : Nat} (h1 : G a ≠ G b) (h2 : jn G x y a = jn G x y b) : jn G a b x = jn G a b y := by
  unfold jn at h2 ⊢
  split at h2 <;> split at h2 <;> split <;> split <;> omega
theorem out_apart {n : Nat} {P R : List (Int × Int)} {x : Int × Int} {a b : Nat} (ok : Ok n (P ++ x :: R)) (hi : Ind (P ++ x :: R)) (h1 : grp P a ≠ grp P b) (h2 : grp (P ++ [x]) a = grp (P ++ [x]) b) : grp (P ++ R) a ≠ grp (P ++ R) b := by
  intro h
  have hx : grp (P ++ R) x.1.toNat = grp (P ++ R) x.2.toNat := by
    rw [grp_snoc] at h2
    have k := jn_swap h1 h2
    have hr : Resp (grp (P ++ R)) (P ++ [((a : Int), (b : Int))]) := by
      intro p hp
      rcases List.mem_append.1 hp with hp | hp
      · exact (good_grp (P ++ R)).resp p (by simp [hp])
      · simp only [List.mem_singleton] at hp
        subst hp
        simpa using h
    have g1 := (good_grp (P ++ [((a : Int), (b : Int))])).inv _ hr x.1.toNat
    have g2 := (good_grp (P ++ [((a : Int), (b : Int))])).inv _ hr x.2.toNat
    rw [grp_snoc] at g1 g2
    simp only [Int.toNat_natCast] at g1 g2
    rw [← g1, ← g2, k]
  have hg : grp (P ++ x :: R) = grp (P ++ R) := by
    refine grp_sub (fun p hp => by
      rcases List.mem_append.1 hp with hp | hp
      · simp [hp]
      · simp [hp]) (fun p hp => ?_)
    rcases List.mem_append.1 hp with hp | hp
    · exact (good_grp (P ++ R)).resp p (by simp [hp])
    · rcases List.mem_cons.1 hp with rfl | hp
      · exact hx
      · exact (good_grp (P ++ R)).resp p (by simp [hp])
  have m1 := ind_many ok hi
  have m2 := many_low (n := n) (l := P ++ R) (fun p hp => ok p (by
    rcases List.mem_append.1 hp with hp | hp
    · simp [hp]
    · simp [hp]))
  rw [hg] at m1
  simp only [List.length_append, List.length_cons] at m1 m2
  omega
theorem kru_pre (es : List E) (l r : List Nat) : ∃ s, kru es (l ++ r) = kru es l ++ s := by
  induction r using rev_ind with
  | h0 => exact ⟨[], by simp⟩
  | h1 r a ih =>
    obtain ⟨s, hs⟩ := ih
    rw [← List.append_assoc, kru_snoc, hs]
    unfold kst
    split
    · exact ⟨s ++ [a], by simp⟩
    · exact ⟨s, rfl⟩
/-- The edge by which the two are joined first lies in the tree. -/
theorem tree_at {es : List E} {a b k : Nat} (hk : k < es.length) (h1 : jd es a b (k + 1)) (h2 : ¬ jd es a b k) :
    ∃ R, tree es = kru es ((ids es).take k) ++ (ids es).getD k 0 :: R := by
  have hT := ids_take es k hk
  have hne : grp (pl es ((ids es).take k)) (en es ((ids es).getD k 0)).1.toNat ≠ grp (pl es ((ids es).take k)) (en es ((ids es).getD k 0)).2.toNat := by
    intro e
    unfold jd at h1 h2
    rw [hT, pl_snoc, grp_snoc, jn_same _ _ _ _ e, jn_same _ _ _ _ e] at h1
    exact h2 h1
  have h3 : kru es ((ids es).take (k + 1)) = kru es ((ids es).take k) ++ [(ids es).getD k 0] := by
    rw [hT, kru_snoc]; unfold kst
    rw [kru_grp, if_pos hne]
  obtain ⟨s, hs⟩ := kru_pre es ((ids es).take (k + 1)) ((ids es).drop (k + 1))
  rw [List.take_append_drop, h3] at hs
  exact ⟨s, by unfold tree; rw [hs]; simp⟩
/-- What is left without the one at place j. -/
def wo (T : List Nat) (j : Nat) : List Nat := T.take j ++ T.drop (j + 1)
/-- The law's own search. -/
def sn (es : List E) (a b : Nat) (T : List Nat) : Nat → Int × Bool
  | 0 => (0, false)
  | j + 1 => if grp (pl es (wo T j)) a ≠ grp (pl es (wo T j)) b ∧ ((sn es a b T j).2 = false ∨ (sn es a b T j).1 < cs es (T.getD j 0)) then (cs es (T.getD j 0), true) else sn es a b T j
theorem sn_nk {n : Int} {es : List E} {a b : Nat} (hg : Gn n es) (hab : a ≠ b) (h5 : (nk es a b).2 = 0) : sn es a b (tree es) (tree es).length = ((nk es a b).1, true) := by
  rcases nk_cases (es := es) hab with ⟨h1, _⟩ | ⟨k, hk, h2, h3, h4⟩
  · rw [h1] at h5; cases h5
  rw [h2]
  obtain ⟨R, hR⟩ := tree_at hk h3 (h4 k (Nat.le_refl _))
  obtain ⟨P, hP⟩ : ∃ P, kru es ((ids es).take k) = P := ⟨_, rfl⟩
  have hPm : ∀ x, x ∈ P → x ∈ (ids es).take k := by rw [← hP]; exact kru_mem es _
  have hPg : grp (pl es P) = grp (pl es ((ids es).take k)) := by rw [← hP]; exact kru_grp es _
  obtain ⟨e, he⟩ : ∃ e, (ids es).getD k 0 = e := ⟨_, rfl⟩
  rw [hP, he] at hR
  have hT := ids_take es k hk
  rw [he] at hT ⊢
  have hcheap := take_cheap hk
  rw [he] at hcheap
  have hok := gn_ok hg (tree_lt es)
  have hind := kru_ind es (ids es)
  rw [show kru es (ids es) = tree es from rfl] at hind
  rw [hR] at hok hind ⊢
  have hpl : pl es (P ++ e :: R) = pl es P ++ en es e :: pl es R := by simp [pl]
  rw [hpl] at hok hind
  have j0 : grp (pl es P) a ≠ grp (pl es P) b := by rw [hPg]; exact h4 k (Nat.le_refl _)
  have j1 : grp (pl es P ++ [en es e]) a = grp (pl es P ++ [en es e]) b := by
    unfold jd at h3
    rw [hT, pl_snoc, grp_snoc, ← hPg, ← grp_snoc] at h3; exact h3
  have hap := out_apart hok hind j0 j1
  -- up to there
  have s1 : ∀ j, j ≤ P.length → (sn es a b (P ++ e :: R) j).2 = true → (sn es a b (P ++ e :: R) j).1 ≤ cs es e := by
    intro j
    induction j with
    | zero => intro _ h; cases h
    | succ j ih =>
      intro hj hs
      unfold sn at hs ⊢
      split
      · have : (P ++ e :: R).getD j 0 ∈ P := by
          rw [List.getD_eq_getElem?_getD, List.getElem?_append_left (by omega), List.getElem?_eq_getElem (by omega)]
          exact List.getElem_mem _
        refine hcheap _ ?_
        rw [hT]; exact List.mem_append.2 (.inl (hPm _ this))
      · rename_i hn
        rw [if_neg hn] at hs
        exact ih (by omega) hs
  have s2 : sn es a b (P ++ e :: R) (P.length + 1) = (cs es e, true) := by
    unfold sn
    have hw : wo (P ++ e :: R) P.length = P ++ R := by unfold wo; rw [List.take_left, List.drop_append]; simp
    have hge : (P ++ e :: R).getD P.length 0 = e := by simp [List.getD_eq_getElem?_getD]
    rw [hw, hge]
    have hap2 : grp (pl es (P ++ R)) a ≠ grp (pl es (P ++ R)) b := by
      have : pl es (P ++ R) = pl es P ++ pl es R := by simp [pl]
      rw [this]; exact hap
    by_cases hc : (sn es a b (P ++ e :: R) P.length).2 = false ∨ (sn es a b (P ++ e :: R) P.length).1 < cs es e
    · rw [if_pos ⟨hap2, hc⟩]
    · rw [if_neg (fun h => hc h.2)]
      have hc1 : (sn es a b (P ++ e :: R) P.length).2 = true := by
        cases hb : (sn es a b (P ++ e :: R) P.length).2
        · exact absurd (.inl hb) hc
        · rfl
      have hc2 := s1 _ (Nat.le_refl _) hc1
      have hc3 : ¬ (sn es a b (P ++ e :: R) P.length).1 < cs es e := fun h => hc (.inr h)
      refine Prod.ext ?_ hc1
      simp only
      omega
  have s3 : ∀ j, P.length + 1 ≤ j → j ≤ (P ++ e :: R).length → sn es a b (P ++ e :: R) j = (cs es e, true) := by
    intro j
    induction j with
    | zero => intro h; omega
    | succ j ih =>
      intro h1 h2
      by_cases hj : j = P.length
      · rw [hj]; exact s2
      · have := ih (by omega) (by omega)
        unfold sn
        rw [this, if_neg]
        intro hh
        refine hh.1 (jn_mono (fun p hp => ?_) j1)
        have hsub : ∀ x, x ∈ P ++ [e] → x ∈ wo (P ++ e :: R) j := by
          intro x hx
          unfold wo
          refine List.mem_append.2 (.inl ?_)
          have e1 : (P ++ e :: R).take j = (P ++ [e]) ++ R.take (j - (P.length + 1)) := by
            have : P ++ e :: R = (P ++ [e]) ++ R := by simp
            rw [this, List.take_append, List.take_of_length_le (by simp; omega)]
            simp
          rw [e1]; exact List.mem_append.2 (.inl hx)
        have hp2 : p ∈ pl es (P ++ [e]) := by rw [pl_snoc]; exact hp
        exact pl_mono hsub p hp2
  exact s3 _ (by simp) (Nat.le_refl _)
end Go.Proofs.Ytdgihpegdcoilaa.Kk
