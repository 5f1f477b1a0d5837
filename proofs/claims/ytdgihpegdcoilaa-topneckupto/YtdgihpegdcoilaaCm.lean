/-
  Plain lists: a walk without its loops. No Go in sight.
-/
import Derived.Test.YtdgihpegdcoilaaWm
namespace Go.Proofs.Ytdgihpegdcoilaa.Cm
open Nm Wm
set_option linter.unusedSimpArgs false

/-- What stands behind the last x; all of it, if there is none. -/
def aft (x : Int) : List Int → List Int
  | [] => []
  | y :: r => if x ∈ r then aft x r else if y = x then r else y :: r
theorem aft_length (x : Int) (l : List Int) : (aft x l).length ≤ l.length := by
  induction l with
  | nil => simp [aft]
  | cons y r ih =>
    rw [aft]; split
    · simp; omega
    · split <;> simp
theorem aft_none {x : Int} {l : List Int} (h : x ∉ l) : aft x l = l := by
  cases l with
  | nil => rfl
  | cons y r =>
    rw [aft, if_neg (fun hx => h (List.mem_cons_of_mem _ hx)), if_neg (fun e => h (by simp [e]))]
theorem not_mem_aft (x : Int) (l : List Int) : x ∉ aft x l := by
  induction l with
  | nil => simp [aft]
  | cons y r ih =>
    rw [aft]; split
    · exact ih
    · rename_i h
      split
      · exact h
      · rename_i h2; simp [h]; exact fun e => h2 e.symm
theorem aft_sub (x : Int) (l : List Int) : ∀ y ∈ aft x l, y ∈ l := by
  induction l with
  | nil => simp [aft]
  | cons z r ih =>
    intro y
    rw [aft]; split
    · intro h; exact List.mem_cons_of_mem _ (ih y h)
    · split
      · intro h; exact List.mem_cons_of_mem _ h
      · exact id
/-- What is behind the last: the list parts there. -/
theorem aft_parts {x : Int} {l : List Int} (h : x ∈ l) : ∃ p, l = p ++ x :: aft x l := by
  induction l with
  | nil => simp at h
  | cons y r ih =>
    rw [aft]
    by_cases hx : x ∈ r
    · rw [if_pos hx]
      obtain ⟨p, hp⟩ := ih hx
      exact ⟨y :: p, by rw [List.cons_append, ← hp]⟩
    · rw [if_neg hx]
      rcases List.mem_cons.1 h with rfl | h
      · rw [if_pos rfl]; exact ⟨[], rfl⟩
      · exact absurd h hx
/-- The list from k on parts at the last place j of x. -/
theorem aft_drop {p : List Int} {x : Int} {i j : Nat} (hij : i ≤ j) (hj : j < p.length) (hx : p.getD j 0 = x) (hlast : ∀ k, j < k → k < p.length → p.getD k 0 ≠ x) : aft x (p.drop (i + 1)) = p.drop (j + 1) := by
  have key : ∀ (l : List Int) (m : Nat), m < l.length → l.getD m 0 = x → (∀ k, m < k → k < l.length → l.getD k 0 ≠ x) → aft x l = l.drop (m + 1) := by
    intro l
    induction l with
    | nil => intro m hm; simp at hm
    | cons y r ih =>
      intro m hm hx hl
      rw [aft]
      cases m with
      | zero =>
        have : x ∉ r := by
          intro hmem
          obtain ⟨k, hk, he⟩ := List.mem_iff_getElem.1 hmem
          exact hl (k + 1) (by omega) (by simp; omega) (by simp [List.getD_eq_getElem?_getD, hk, he])
        rw [if_neg this]
        have hy : y = x := by simpa using hx
        rw [if_pos hy]; rfl
      | succ m =>
        have hm' : m < r.length := by simpa using hm
        have hx' : r.getD m 0 = x := by simpa using hx
        have hmem : x ∈ r := by rw [← hx']; simp [List.getD_eq_getElem?_getD, hm']
        rw [if_pos hmem, ih m hm' hx' (fun k h1 h2 => by have := hl (k + 1) (by omega) (by simp; omega); simpa using this)]
        rfl
  by_cases e : i = j
  · subst e
    have hn : x ∉ p.drop (i + 1) := by
      intro hmem
      obtain ⟨k, hk, he⟩ := List.mem_iff_getElem.1 hmem
      simp at hk
      refine hlast (i + 1 + k) (by omega) (by omega) ?_
      rw [List.getElem_drop] at he
      simp [List.getD_eq_getElem?_getD, show i + 1 + k < p.length by omega, he]
    exact aft_none hn
  · have hg : ∀ k, i + 1 + k < p.length → (p.drop (i + 1)).getD k 0 = p.getD (i + 1 + k) 0 := by
      intro k hk; simp [List.getD_eq_getElem?_getD, List.getElem?_drop]
    rw [key (p.drop (i + 1)) (j - i - 1) (by simp; omega) (by rw [hg _ (by omega), show i + 1 + (j - i - 1) = j by omega]; exact hx) (fun k h1 h2 => by simp at h2; rw [hg _ (by omega)]; exact hlast _ (by omega) (by omega))]
    rw [List.drop_drop]; congr 1; omega

/-- Without loops: so many steps at most. -/
def cutf : Nat → List Int → List Int
  | 0, _ => []
  | _ + 1, [] => []
  | f + 1, x :: r => x :: cutf f (aft x r)
def cut (l : List Int) : List Int := cutf l.length l
theorem cutf_eq (f g : Nat) (l : List Int) (hf : l.length ≤ f) (hg : l.length ≤ g) : cutf f l = cutf g l := by
  induction f generalizing g l with
  | zero =>
    obtain rfl : l = [] := List.length_eq_zero_iff.1 (by omega)
    cases g <;> rfl
  | succ f ih =>
    cases l with
    | nil => cases g <;> rfl
    | cons x r =>
      cases g with
      | zero => simp at hg
      | succ g =>
        have := aft_length x r
        simp at hf hg
        rw [cutf, cutf, ih g (aft x r) (by omega) (by omega)]
theorem cut_nil : cut [] = [] := rfl
theorem cut_cons (x : Int) (r : List Int) : cut (x :: r) = x :: cut (aft x r) := by
  have := aft_length x r
  unfold cut
  rw [List.length_cons, cutf, cutf_eq _ (aft x r).length (aft x r) this (Nat.le_refl _)]
theorem cut_ind {P : List Int → Prop} (h0 : P []) (h1 : ∀ x r, P (aft x r) → P (x :: r)) (l : List Int) : P l := by
  suffices h : ∀ n, ∀ l : List Int, l.length ≤ n → P l from h l.length l (Nat.le_refl _)
  intro n
  induction n with
  | zero => intro l hl; obtain rfl : l = [] := List.length_eq_zero_iff.1 (by omega); exact h0
  | succ n ih =>
    intro l hl
    cases l with
    | nil => exact h0
    | cons x r => have := aft_length x r; simp at hl; exact h1 x r (ih _ (by omega))
theorem cut_sub (l : List Int) : ∀ y ∈ cut l, y ∈ l := by
  refine cut_ind (P := fun l => ∀ y ∈ cut l, y ∈ l) (by simp [cut_nil]) (fun x r ih y hy => ?_) l
  rw [cut_cons] at hy
  rcases List.mem_cons.1 hy with rfl | hy
  · simp
  · exact List.mem_cons_of_mem _ (aft_sub x r y (ih y hy))
theorem cut_nodup (l : List Int) : (cut l).Nodup := by
  refine cut_ind (P := fun l => (cut l).Nodup) (by simp [cut_nil]) (fun x r ih => ?_) l
  rw [cut_cons]
  exact List.nodup_cons.2 ⟨fun h => not_mem_aft x r (cut_sub _ _ h), ih⟩
theorem cut_self {l : List Int} (h : l.Nodup) : cut l = l := by
  induction l with
  | nil => rfl
  | cons x r ih =>
    obtain ⟨h1, h2⟩ := List.nodup_cons.1 h
    rw [cut_cons, aft_none h1, ih h2]
theorem cut_cut (l : List Int) : cut (cut l) = cut l := cut_self (cut_nodup l)
theorem cut_length (l : List Int) : (cut l).length ≤ l.length := by
  refine cut_ind (P := fun l => (cut l).length ≤ l.length) (by simp [cut_nil]) (fun x r ih => ?_) l
  have := aft_length x r
  rw [cut_cons]; simp; omega
theorem cut_pos {l : List Int} (h : 0 < l.length) : 0 < (cut l).length := by
  cases l with
  | nil => simp at h
  | cons x r => rw [cut_cons]; simp
theorem cut_first {l : List Int} : (cut l).getD 0 0 = l.getD 0 0 := by
  cases l with
  | nil => rfl
  | cons x r => rw [cut_cons]; rfl
theorem last_cons {x : Int} {r : List Int} (h : r ≠ []) : (x :: r).getD ((x :: r).length - 1) 0 = r.getD (r.length - 1) 0 := by
  cases r with
  | nil => exact absurd rfl h
  | cons y r => simp
theorem last_append {p r : List Int} (h : r ≠ []) : (p ++ r).getD ((p ++ r).length - 1) 0 = r.getD (r.length - 1) 0 := by
  induction p with
  | nil => rfl
  | cons y p ih => rw [List.cons_append, last_cons (by simp [h]), ih]
theorem cut_last (l : List Int) : (cut l).getD ((cut l).length - 1) 0 = l.getD (l.length - 1) 0 := by
  refine cut_ind (P := fun l => (cut l).getD ((cut l).length - 1) 0 = l.getD (l.length - 1) 0) rfl (fun x r ih => ?_) l
  rw [cut_cons]
  by_cases he : aft x r = []
  · rw [he, cut_nil]
    by_cases hx : x ∈ r
    · obtain ⟨p, hp⟩ := aft_parts hx
      rw [he] at hp
      have e4 : x :: r = (x :: p) ++ [x] := by rw [hp]; rfl
      rw [e4, last_append (by simp)]
    · rw [aft_none hx] at he
      rw [he]
  · have hc : cut (aft x r) ≠ [] := by
      intro e
      have := cut_pos (List.length_pos_iff.2 he)
      rw [e] at this; simp at this
    rw [last_cons hc, ih]
    by_cases hx : x ∈ r
    · obtain ⟨p, hp⟩ := aft_parts hx
      have e2 : (x :: r).getD ((x :: r).length - 1) 0 = (aft x r).getD ((aft x r).length - 1) 0 := by
        have e3 : x :: r = (x :: p ++ [x]) ++ aft x r := by simp; exact hp
        rw [e3, last_append he]
      rw [e2]
    · rw [aft_none hx]; rw [aft_none hx] at he; rw [last_cons he]
/-- What was told, and what is still to come. -/
theorem cut_step {p out : List Int} {i j : Nat} {x : Int} (h : cut p = out ++ cut (p.drop i)) (hi : i < p.length) (hx : p.getD i 0 = x) (hij : i ≤ j) (hj : j < p.length) (hxj : p.getD j 0 = x) (hlast : ∀ k, j < k → k < p.length → p.getD k 0 ≠ x) :
    cut p = (out ++ [x]) ++ cut (p.drop (j + 1)) := by
  have e : p.drop i = x :: p.drop (i + 1) := by
    rw [List.drop_eq_getElem_cons hi]; congr 1
    rw [← hx]; simp [List.getD_eq_getElem?_getD, hi]
  rw [h, e, cut_cons, aft_drop hij hj hxj hlast]
  simp

/-- Without its loops a walk is a walk, and costs no more where no edge costs less than 0. -/
theorem wc_nonneg {es : List E} (hp : ∀ e ∈ es, 0 ≤ e.2.2) (p : List Int) (s : Int) (h : wc es p = some s) : 0 ≤ s := by
  induction p generalizing s with
  | nil => cases h
  | cons u r ih =>
    cases r with
    | nil => cases h; exact Int.le_refl _
    | cons v r =>
      cases hc : chp u v es with
      | none => rw [wc_gone hc] at h; cases h
      | some c =>
        rw [wc_on hc] at h
        cases h2 : wc es (v :: r) with
        | none => rw [h2] at h; cases h
        | some t =>
          rw [h2] at h
          simp at h
          have := ih t h2
          obtain ⟨⟨e, he, _, _, rfl⟩, _⟩ := chp_some hc
          have := hp e he
          omega
theorem wc_aft {es : List E} {x : Int} {r : List Int} {s : Int} (h : wc es (x :: r) = some s) : ∃ t, wc es (x :: aft x r) = some t ∧ ((∀ e ∈ es, 0 ≤ e.2.2) → t ≤ s) := by
  by_cases hx : x ∈ r
  · obtain ⟨p, hp⟩ := aft_parts hx
    rw [hp, show x :: (p ++ x :: aft x r) = (x :: p) ++ x :: aft x r from rfl, wc_parts] at h
    cases h1 : wc es (x :: p ++ [x]) with
    | none => rw [h1] at h; cases h
    | some a =>
      cases h2 : wc es (x :: aft x r) with
      | none => rw [h1, h2] at h; cases h
      | some t =>
        rw [h1, h2] at h
        simp at h
        exact ⟨t, rfl, fun hpos => by have := wc_nonneg hpos _ _ h1; omega⟩
  · exact ⟨s, by rw [aft_none hx]; exact h, fun _ => Int.le_refl _⟩
theorem wc_cut (es : List E) (l : List Int) : ∀ s, wc es l = some s → ∃ t, wc es (cut l) = some t ∧ ((∀ e ∈ es, 0 ≤ e.2.2) → t ≤ s) := by
  refine cut_ind (P := fun l => ∀ s, wc es l = some s → ∃ t, wc es (cut l) = some t ∧ ((∀ e ∈ es, 0 ≤ e.2.2) → t ≤ s)) (fun s h => by cases h) (fun x r ih s h => ?_) l
  obtain ⟨t, ht, hle⟩ := wc_aft h
  rw [cut_cons]
  cases ha : aft x r with
  | nil => rw [ha] at ht; exact ⟨t, ht, hle⟩
  | cons y r' =>
    rw [ha] at ht ih
    rw [cut_cons]
    cases hc : chp x y es with
    | none => rw [wc_gone hc] at ht; cases ht
    | some c =>
      rw [wc_on hc] at ht
      cases h2 : wc es (y :: r') with
      | none => rw [h2] at ht; cases ht
      | some t2 =>
        rw [h2] at ht
        simp at ht
        obtain ⟨t3, h3, h4⟩ := ih t2 h2
        rw [cut_cons] at h3
        refine ⟨c + t3, by rw [wc_on hc, h3]; rfl, fun hp => ?_⟩
        have := h4 hp
        have := hle hp
        omega
theorem wcode_cut {n : Int} {es : List E} {p : List Int} (h : (wcode n es p).2 = 0) : (wcode n es (cut p)).2 = 0 ∧ ((wcode n es (cut p)).1 ≤ (wcode n es p).1 ∨ nps n es ≠ 0) := by
  obtain ⟨h0, h1, h2, h3, h4⟩ := wcode_ok h
  obtain ⟨t, ht, hle⟩ := wc_cut es p _ h4
  have hl := cut_length p
  have hp := cut_pos (l := p) (by omega)
  have ha : (cut p).all (plc n) = true := List.all_eq_true.2 (fun x hx => List.all_eq_true.1 h3 x (cut_sub p x hx))
  rw [wcode_some h0 (by omega) (by omega) ha ht]
  refine ⟨rfl, ?_⟩
  by_cases hn : nps n es = 0
  · refine .inl (hle (fun e he => ?_))
    unfold nps at hn
    rw [if_neg (by simp [h0])] at hn
    split at hn
    · rename_i hall
      have := of_decide_eq_true (List.all_eq_true.1 hall e he)
      omega
    · cases hn
  · exact .inr hn
end Go.Proofs.Ytdgihpegdcoilaa.Cm
