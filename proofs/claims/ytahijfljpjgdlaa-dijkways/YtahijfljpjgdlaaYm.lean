/-
  Plain ways: from the end back, to the least place ahead. No Go in sight.
-/
import Derived.Test.YtahijfljpjgdlaaDm
import Derived.Test.YtahijfljpjgdlaaCm
namespace Go.Proofs.Ytahijfljpjgdlaa.Ym
open Nm Wm Dm Cm
set_option linter.unusedSimpArgs false

/-- From u an edge leads to v on a walk that costs least. -/
def Tg (es : List E) (d : Nat → Int) (u v : Nat) : Prop := ∃ e ∈ es, e.1.toNat = u ∧ e.2.1.toNat = v ∧ d u + e.2.2 = d v
/-- Of the first k edges: the least place from which one leads to v so. -/
def ahd (N : Nat) (es : List E) (d : Nat → Int) (v : Nat) : Nat → Nat
  | 0 => N
  | k + 1 => if (at3 es k).2.1.toNat = v ∧ d (at3 es k).1.toNat + (at3 es k).2.2 = d v then min (ahd N es d v k) (at3 es k).1.toNat else ahd N es d v k
theorem ahd_yes {N : Nat} {es : List E} {d : Nat → Int} {v k : Nat} (h : (at3 es k).2.1.toNat = v ∧ d (at3 es k).1.toNat + (at3 es k).2.2 = d v) : ahd N es d v (k + 1) = min (ahd N es d v k) (at3 es k).1.toNat := by rw [ahd, if_pos h]
theorem ahd_no {N : Nat} {es : List E} {d : Nat → Int} {v k : Nat} (h : ¬ ((at3 es k).2.1.toNat = v ∧ d (at3 es k).1.toNat + (at3 es k).2.2 = d v)) : ahd N es d v (k + 1) = ahd N es d v k := by rw [ahd, if_neg h]
theorem ahd_step (N : Nat) (es : List E) (d : Nat → Int) (v k : Nat) : ahd N es d v (k + 1) ≤ ahd N es d v k := by
  rw [ahd]; split
  · exact Nat.min_le_left _ _
  · exact Nat.le_refl _
theorem ahd_top (N : Nat) (es : List E) (d : Nat → Int) (v k : Nat) : ahd N es d v k ≤ N := by
  induction k with
  | zero => exact Nat.le_refl _
  | succ k ih => exact Nat.le_trans (ahd_step N es d v k) ih
theorem ahd_mono (N : Nat) (es : List E) (d : Nat → Int) (v : Nat) {j k : Nat} (h : j ≤ k) : ahd N es d v k ≤ ahd N es d v j := by
  induction k with
  | zero => obtain rfl : j = 0 := by omega
            exact Nat.le_refl _
  | succ k ih =>
    rcases (show j ≤ k ∨ j = k + 1 by omega) with h1 | rfl
    · exact Nat.le_trans (ahd_step N es d v k) (ih h1)
    · exact Nat.le_refl _
theorem ahd_least {N : Nat} {es : List E} {d : Nat → Int} {u v : Nat} (h : Tg es d u v) : ahd N es d v es.length ≤ u := by
  obtain ⟨e, he, h1, h2, h3⟩ := h
  obtain ⟨j, hj, rfl⟩ := List.mem_iff_getElem.1 he
  have e3 : at3 es j = es[j] := by unfold at3; simp [hj]
  refine Nat.le_trans (ahd_mono N es d v (show j + 1 ≤ es.length by omega)) ?_
  rw [ahd_yes (by rw [e3, h1]; exact ⟨h2, h3⟩), e3, h1]
  exact Nat.min_le_right _ _
theorem ahd_from (N : Nat) (es : List E) (d : Nat → Int) (v k : Nat) (hk : k ≤ es.length) : ahd N es d v k = N ∨ Tg es d (ahd N es d v k) v := by
  induction k with
  | zero => exact .inl rfl
  | succ k ih =>
    have ih := ih (by omega)
    by_cases h : (at3 es k).2.1.toNat = v ∧ d (at3 es k).1.toNat + (at3 es k).2.2 = d v
    · rw [ahd_yes h]
      by_cases hm : ahd N es d v k ≤ (at3 es k).1.toNat
      · rw [Nat.min_eq_left hm]; exact ih
      · rw [Nat.min_eq_right (by omega)]
        exact .inr ⟨at3 es k, mem_at (by omega), rfl, h.1, h.2⟩
    · rw [ahd_no h]; exact ih
/-- The place ahead of v. -/
def ah (N : Nat) (es : List E) (d : Nat → Int) (v : Nat) : Nat := ahd N es d v es.length
theorem ah_is {N : Nat} {es : List E} {s v : Nat} {d : Nat → Int} (hp : Pn N es) (h : IsD N es s d) (hv : v < N) (hs : v ≠ s) (hf : d v < far) : ah N es d v < N ∧ Tg es d (ah N es d v) v := by
  obtain ⟨e, he, h1, _, h3⟩ := h.sup v hv hs hf
  have h4 : ah N es d v ≤ e.1.toNat := ahd_least ⟨e, he, rfl, h1, h3⟩
  have h5 := (hp.nat he).1
  refine ⟨by omega, ?_⟩
  rcases ahd_from N es d v es.length (Nat.le_refl _) with h6 | h6
  · unfold ah at h4; omega
  · exact h6
theorem tg_less {N : Nat} {es : List E} {u v : Nat} {d : Nat → Int} (hp : Pn N es) (h : Tg es d u v) : d u + 1 ≤ d v ∧ u < N := by
  obtain ⟨e, he, h1, h2, h3⟩ := h
  obtain ⟨a, _, c, _⟩ := hp.nat he
  rw [h1] at a
  exact ⟨by omega, a⟩
theorem tg_chp {N : Nat} {es : List E} {s u v : Nat} {d : Nat → Int} (hp : Pn N es) (h : IsD N es s d) (ht : Tg es d u v) (hf : d v < far) : chp u v es = some (d v - d u) := by
  have hl := (tg_less hp ht).1
  obtain ⟨e, he, h1, h2, h3⟩ := ht
  have h0 := hp.ok e he
  refine chp_of ⟨e, he, by omega, by omega, by omega⟩ (fun x hx a b => ?_)
  have h4 := h.rel x hx
  rw [a, b, Int.toNat_natCast, Int.toNat_natCast] at h4
  have := h4 (by omega)
  omega
theorem chp_tg {es : List E} {u v : Nat} {c : Int} {d : Nat → Int} (h : chp u v es = some c) (he : d u + c = d v) : Tg es d u v := by
  obtain ⟨⟨e, hm, a, b, rfl⟩, _⟩ := chp_some h
  exact ⟨e, hm, by rw [a, Int.toNat_natCast], by rw [b, Int.toNat_natCast], he⟩

/-- So many steps back. -/
def anc (f : Nat → Nat) (t : Nat) : Nat → Nat
  | 0 => t
  | k + 1 => f (anc f t k)
def bp (f : Nat → Nat) (t k : Nat) : List Int := (List.range (k + 1)).map (fun i => (anc f t i : Int))
theorem bp_zero (f : Nat → Nat) (t : Nat) : bp f t 0 = [(t : Int)] := rfl
theorem bp_next (f : Nat → Nat) (t k : Nat) : bp f t (k + 1) = bp f t k ++ [(anc f t (k + 1) : Int)] := by
  unfold bp; rw [List.range_succ (n := k + 1), List.map_append]; rfl
theorem bp_length (f : Nat → Nat) (t k : Nat) : (bp f t k).length = k + 1 := by simp [bp]
theorem bp_at {f : Nat → Nat} {t k i : Nat} (h : i ≤ k) : (bp f t k).getD i 0 = (anc f t i : Int) := by
  simp [bp, List.getD_eq_getElem?_getD, show i < k + 1 by omega]
theorem rev_next (f : Nat → Nat) (t k : Nat) : (bp f t (k + 1)).reverse = (anc f t (k + 1) : Int) :: (bp f t k).reverse := by rw [bp_next, List.reverse_append]; rfl
theorem rev_at {f : Nat → Nat} {t k i : Nat} (h : i ≤ k) : (bp f t k).reverse.getD i 0 = (anc f t (k - i) : Int) := by
  rw [← bp_at (k := k) (show k - i ≤ k by omega)]
  rw [List.getD_eq_getElem?_getD, List.getElem?_reverse (by rw [bp_length]; omega), ← List.getD_eq_getElem?_getD, bp_length]
  congr 1

/-- So far back, and not yet at s. -/
structure Bk (N : Nat) (es : List E) (s : Nat) (d : Nat → Int) (t k : Nat) : Prop where
  lt : ∀ i, i ≤ k → anc (ah N es d) t i < N
  fin : ∀ i, i ≤ k → d (anc (ah N es d) t i) < far
  ne : ∀ i, i < k → anc (ah N es d) t i ≠ s
  tg : ∀ i, i < k → Tg es d (anc (ah N es d) t (i + 1)) (anc (ah N es d) t i)
theorem bk_zero {N : Nat} {es : List E} {s t : Nat} {d : Nat → Int} (ht : t < N) (hf : d t < far) : Bk N es s d t 0 := by
  refine ⟨fun i hi => ?_, fun i hi => ?_, fun i hi => by omega, fun i hi => by omega⟩
  · obtain rfl : i = 0 := by omega
    exact ht
  · obtain rfl : i = 0 := by omega
    exact hf
theorem bk_next {N : Nat} {es : List E} {s t k : Nat} {d : Nat → Int} (hp : Pn N es) (h : IsD N es s d) (hb : Bk N es s d t k) (hne : anc (ah N es d) t k ≠ s) : Bk N es s d t (k + 1) := by
  obtain ⟨h1, h2⟩ := ah_is hp h (hb.lt k (Nat.le_refl _)) hne (hb.fin k (Nat.le_refl _))
  have h3 := (tg_less hp h2).1
  have h4 := hb.fin k (Nat.le_refl _)
  refine ⟨fun i hi => ?_, fun i hi => ?_, fun i hi => ?_, fun i hi => ?_⟩
  · rcases (show i ≤ k ∨ i = k + 1 by omega) with h | rfl
    · exact hb.lt i h
    · exact h1
  · rcases (show i ≤ k ∨ i = k + 1 by omega) with h | rfl
    · exact hb.fin i h
    · show d (ah N es d (anc (ah N es d) t k)) < far
      omega
  · rcases (show i < k ∨ i = k by omega) with h | rfl
    · exact hb.ne i h
    · exact hne
  · rcases (show i < k ∨ i = k by omega) with h | rfl
    · exact hb.tg i h
    · exact h2
theorem Bk.down {N : Nat} {es : List E} {s t k : Nat} {d : Nat → Int} (hp : Pn N es) (hb : Bk N es s d t k) : ∀ i j, i < j → j ≤ k → d (anc (ah N es d) t j) < d (anc (ah N es d) t i) := by
  intro i j
  induction j with
  | zero => intro h; omega
  | succ j ih =>
    intro hij hj
    have h1 := (tg_less hp (hb.tg j (by omega))).1
    rcases (show i < j ∨ i = j by omega) with h | rfl
    · have := ih h (by omega); omega
    · omega
theorem Bk.short {N : Nat} {es : List E} {s t k : Nat} {d : Nat → Int} (hp : Pn N es) (hb : Bk N es s d t k) : k + 1 ≤ N := by
  have key : ∀ j, j ≤ k → j + rk N d (d (anc (ah N es d) t j)) ≤ rk N d (d t) := by
    intro j
    induction j with
    | zero => intro _; show 0 + rk N d (d t) ≤ _; omega
    | succ j ih =>
      intro hj
      have := ih (by omega)
      have h1 := (tg_less hp (hb.tg j (by omega))).1
      have := rk_lt (N := N) (d := d) (hb.lt (j + 1) hj) (show d (anc (ah N es d) t (j + 1)) < d (anc (ah N es d) t j) by omega)
      omega
  have h1 := key k (Nat.le_refl _)
  have h2 := rk_less (N := N) (d := d) (hb.lt 0 (Nat.zero_le _))
  have h3 : anc (ah N es d) t 0 = t := rfl
  rw [h3] at h2
  omega
theorem Bk.one {N : Nat} {es : List E} {s t k k' : Nat} {d : Nat → Int} (hb : Bk N es s d t k) (hs : anc (ah N es d) t k = s) (hb' : Bk N es s d t k') (hs' : anc (ah N es d) t k' = s) : k = k' := by
  rcases (show k < k' ∨ k = k' ∨ k' < k by omega) with h | h | h
  · exact absurd hs (hb'.ne k h)
  · exact h
  · exact absurd hs' (hb.ne k' h)

/-- A list whose steps cost what the places differ by. -/
def Tl (es : List E) (D : Int → Int) (p : List Int) : Prop := ∀ i, i + 1 < p.length → chp (p.getD i 0) (p.getD (i + 1) 0) es = some (D (p.getD (i + 1) 0) - D (p.getD i 0))
theorem tl_wc {es : List E} {D : Int → Int} (p : List Int) (h0 : 0 < p.length) (h : Tl es D p) : wc es p = some (D (p.getD (p.length - 1) 0) - D (p.getD 0 0)) := by
  induction p with
  | nil => simp at h0
  | cons u r ih =>
    cases r with
    | nil => rw [wc_one]; simp
    | cons v r =>
      have hc := h 0 (by simp)
      simp only [List.getD_cons_zero, List.getD_cons_succ] at hc
      have h2 : Tl es D (v :: r) := fun i hi => by
        have := h (i + 1) (by simp at hi ⊢; omega)
        simpa using this
      rw [wc_on hc, ih (by simp) h2, last_cons (x := u) (r := v :: r) (fun e => by cases e)]
      simp only [Option.map_some, List.getD_cons_zero]
      congr 1
      omega
theorem tl_part {es : List E} {D : Int → Int} {p : List Int} (h : Tl es D p) (i m : Nat) (hm : i + m ≤ p.length) : Tl es D ((p.drop i).take m) := by
  have hg : ∀ j, j < m → ((p.drop i).take m).getD j 0 = p.getD (i + j) 0 := by
    intro j hj
    simp [List.getD_eq_getElem?_getD, List.getElem?_take, hj, List.getElem?_drop]
  intro j hj
  rw [List.length_take, List.length_drop] at hj
  rw [hg j (by omega), hg (j + 1) (by omega)]
  exact h (i + j) (by omega)
theorem bk_tl {N : Nat} {es : List E} {s t k : Nat} {d : Nat → Int} (hp : Pn N es) (h : IsD N es s d) (hb : Bk N es s d t k) : Tl es (fun x => d x.toNat) (bp (ah N es d) t k).reverse := by
  intro i hi
  rw [List.length_reverse, bp_length] at hi
  rw [rev_at (show i ≤ k by omega), rev_at (show i + 1 ≤ k by omega)]
  have := tg_chp hp h (hb.tg (k - (i + 1)) (by omega)) (hb.fin _ (by omega))
  rw [show k - (i + 1) + 1 = k - i by omega] at this
  simpa using this
theorem bk_wc {N : Nat} {es : List E} {s t k : Nat} {d : Nat → Int} (hp : Pn N es) (h : IsD N es s d) (hb : Bk N es s d t k) (hs : anc (ah N es d) t k = s) : wc es (bp (ah N es d) t k).reverse = some (d t) := by
  rw [tl_wc _ (by rw [List.length_reverse, bp_length]; omega) (bk_tl hp h hb), List.length_reverse, bp_length]
  rw [rev_at (show k + 1 - 1 ≤ k by omega), rev_at (show 0 ≤ k by omega)]
  simp only [Int.toNat_natCast]
  rw [show k - (k + 1 - 1) = 0 by omega, show k - 0 = k by omega, hs, h.s0]
  show some (d t - 0) = some (d t)
  rw [Int.sub_zero]
theorem bk_nodup {N : Nat} {es : List E} {s t k : Nat} {d : Nat → Int} (hp : Pn N es) (hb : Bk N es s d t k) : (bp (ah N es d) t k).reverse.Nodup := by
  rw [List.nodup_iff_pairwise_ne, List.pairwise_reverse]
  unfold bp
  rw [List.pairwise_map, List.pairwise_iff_getElem]
  intro i j hi hj hij he
  simp at hi hj he
  have := hb.down hp i j hij (by omega)
  rw [show anc (ah N es d) t j = anc (ah N es d) t i by omega] at this
  omega
theorem bk_all {N : Nat} {es : List E} {s t k : Nat} {d : Nat → Int} (hb : Bk N es s d t k) : (bp (ah N es d) t k).reverse.all (plc N) = true := by
  rw [List.all_eq_true]
  intro x hx
  rw [List.mem_reverse] at hx
  unfold bp at hx
  obtain ⟨i, hi, rfl⟩ := List.mem_map.1 hx
  have := hb.lt i (by have := List.mem_range.1 hi; omega)
  exact plc_yes (by omega) (by omega)
/-- Every part of a way costs least. -/
theorem tl_least {N : Nat} {es : List E} {s u : Nat} {d t : Nat → Int} {q : List Int} (hp : Pn N es) (h : IsD N es s d) (h' : IsD N es u t) (hu : u < N) (hf : d u < far) (h0 : 0 < q.length) (hq0 : q.getD 0 0 = (u : Int)) (hq : ∀ i, i < q.length → 0 ≤ q.getD i 0 ∧ q.getD i 0 < N) (hlt : ∀ i, i < q.length → d (q.getD i 0).toNat < far) (htl : Tl es (fun x => d x.toNat) q) : wc es q = some (t (q.getD (q.length - 1) 0).toNat) ∧ t (q.getD (q.length - 1) 0).toNat < far := by
  have hF : far = 1099511627776 := rfl
  have hu0 := h.lo u hu
  have key : ∀ j, j < q.length → t (q.getD j 0).toNat ≤ d (q.getD j 0).toNat - d u := by
    intro j
    induction j with
    | zero => intro _; rw [hq0, Int.toNat_natCast, h'.s0]; omega
    | succ j ih =>
      intro hj
      have h1 := ih (by omega)
      have h2 := htl j hj
      obtain ⟨⟨e, he, a, b, hc⟩, _⟩ := chp_some h2
      have h3 := h'.rel e he
      rw [a, b] at h3
      have h4 := h.bound hp (show (q.getD j 0).toNat < N by have := hq j (by omega); omega) (hlt j (by omega))
      have := h3 (by omega)
      simp only at hc
      omega
  have hl : q.length - 1 < q.length := by omega
  have h1 := key _ hl
  have hN : (q.getD (q.length - 1) 0).toNat < N := by have := hq _ hl; omega
  have h2 := h.bound hp hN (hlt _ hl)
  have h3 := h.over hp h' hu hf _ hN (by omega)
  rw [tl_wc q h0 htl, hq0, Int.toNat_natCast]
  exact ⟨by congr 1; omega, by omega⟩
end Go.Proofs.Ytahijfljpjgdlaa.Ym
