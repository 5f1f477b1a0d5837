/-
  Plain knots in their order: how many edges still hold each, what comes free, the round of it. No Go in sight.
-/
import Derived.Test.YtkklgnfimkojlaaKm
namespace Go.Proofs.Ytkklgnfimkojlaa.Km
open Nm Wm Dm Bm Fm
set_option linter.unusedSimpArgs false
set_option linter.unusedVariables false

/-- An edge leads from one knot to another. -/
def lk (K : Nat → Nat) (es : List E) (a b : Nat) : Bool := decide (a ≠ b) && es.any (fun e => decide (K e.1.toNat = a) && decide (K e.2.1.toNat = b))
/-- The knots, by their least places. -/
def kl (K : Nat → Nat) (N : Nat) : List Nat := (List.range N).filter (fun v => decide (v = K v))
theorem kl_next (K : Nat → Nat) (k : Nat) : kl K (k + 1) = kl K k ++ (if k = K k then [k] else []) := by
  unfold kl
  rw [List.range_succ, List.filter_append]
  congr 1
  by_cases h : k = K k
  · rw [if_pos h]; simp [← h]
  · rw [if_neg h]; simp [h]
theorem kl_mem {K : Nat → Nat} {N v : Nat} : v ∈ kl K N ↔ v < N ∧ v = K v := by
  unfold kl; rw [List.mem_filter, List.mem_range]; simp
theorem range_lt (n : Nat) : (List.range n).Pairwise (fun a b => a < b) := List.pairwise_lt_range
theorem kl_lt (K : Nat → Nat) (N : Nat) : (kl K N).Pairwise (fun a b => a < b) := (range_lt N).filter _
theorem lt_nodup {l : List Nat} (h : l.Pairwise (fun a b => a < b)) : l.Nodup := h.imp (fun h => Nat.ne_of_lt h)
theorem kl_len (K : Nat → Nat) (N : Nat) : (kl K N).length ≤ N := by
  have := List.length_filter_le (fun v => decide (v = K v)) (List.range N)
  rw [List.length_range] at this; exact this
/-- Each place's knot is one of the knots. -/
structure Kok (N : Nat) (es : List E) (K : Nat → Nat) : Prop where
  lt : ∀ v, v < N → K v < N
  id : ∀ v, v < N → K (K v) = K v
  es : ∀ e ∈ es, e.1.toNat < N ∧ e.2.1.toNat < N
theorem Kok.frm {N : Nat} {es : List E} {K : Nat → Nat} (h : Kok N es K) {e : E} (he : e ∈ es) : K e.1.toNat ∈ kl K N :=
  kl_mem.2 ⟨h.lt _ (h.es e he).1, (h.id _ (h.es e he).1).symm⟩
theorem Kok.tox {N : Nat} {es : List E} {K : Nat → Nat} (h : Kok N es K) {e : E} (he : e ∈ es) : K e.2.1.toNat ∈ kl K N :=
  kl_mem.2 ⟨h.lt _ (h.es e he).2, (h.id _ (h.es e he).2).symm⟩
theorem Lds.kok {N : Nat} {es : List E} {R : Nat → Nat → Bool} (h : Lds N es R) (hi : Inn N es) : Kok N es (kn R) :=
  ⟨fun v hv => kn_lt R hv, fun v hv => h.kn_kn hv, hi⟩

/-- How many edges lead to t from other knots that have not come. -/
def hw (K : Nat → Nat) (l : List Nat) (t : Nat) (e : E) : Bool := decide (K e.1.toNat ∈ l) && (decide (K e.2.1.toNat = t) && decide (K e.1.toNat ≠ t))
def wt (K : Nat → Nat) (es : List E) (l : List Nat) (t : Nat) : Nat := es.countP (hw K l t)
/-- How many lead there at all from other knots, of the first k. -/
def hd (K : Nat → Nat) (es : List E) : Nat → Nat → Int
  | 0 => fun _ => 0
  | k + 1 => if K (at3 es k).1.toNat ≠ K (at3 es k).2.1.toNat then fun t => if t = K (at3 es k).2.1.toNat then hd K es k t + 1 else hd K es k t else hd K es k
theorem hd_yes {K : Nat → Nat} {es : List E} {k : Nat} (h : K (at3 es k).1.toNat ≠ K (at3 es k).2.1.toNat) : hd K es (k + 1) = fun t => if t = K (at3 es k).2.1.toNat then hd K es k t + 1 else hd K es k t := by rw [hd, if_pos h]
theorem hd_no {K : Nat → Nat} {es : List E} {k : Nat} (h : ¬ K (at3 es k).1.toNat ≠ K (at3 es k).2.1.toNat) : hd K es (k + 1) = hd K es k := by rw [hd, if_neg h]
theorem take_next {es : List E} {k : Nat} (h : k < es.length) : es.take (k + 1) = es.take k ++ [at3 es k] := by
  rw [List.take_add_one, List.getElem?_eq_getElem h]
  unfold at3; simp [List.getD_eq_getElem?_getD, h]
theorem hd_cnt {N : Nat} {es : List E} {K : Nat → Nat} (hk : Kok N es K) (k : Nat) (h : k ≤ es.length) (t : Nat) : hd K es k t = ((es.take k).countP (hw K (kl K N) t) : Nat) := by
  induction k with
  | zero => rfl
  | succ k ih =>
    have ih := ih (by omega)
    have hf := hk.frm (mem_at (es := es) (k := k) (by omega))
    rw [take_next (by omega), List.countP_append, List.countP_singleton]
    have e1 : hw K (kl K N) t (at3 es k) = (decide (K (at3 es k).2.1.toNat = t) && decide (K (at3 es k).1.toNat ≠ t)) := by unfold hw; simp [hf]
    rw [e1]
    by_cases h1 : K (at3 es k).1.toNat ≠ K (at3 es k).2.1.toNat
    · rw [hd_yes h1]
      dsimp only
      by_cases h2 : t = K (at3 es k).2.1.toNat
      · subst h2; rw [if_pos rfl, ih]; simp [h1]
      · have h3 : ¬ K (at3 es k).2.1.toNat = t := fun e => h2 e.symm
        rw [if_neg h2, ih]; simp [h3]
    · rw [hd_no h1, ih]
      have h4 : K (at3 es k).1.toNat = K (at3 es k).2.1.toNat := Classical.not_not.1 h1
      by_cases h2 : K (at3 es k).2.1.toNat = t
      · simp [h4, h2]
      · simp [h2]
theorem hd_wt {N : Nat} {es : List E} {K : Nat → Nat} (hk : Kok N es K) (t : Nat) : hd K es es.length t = (wt K es (kl K N) t : Nat) := by
  rw [hd_cnt hk _ (Nat.le_refl _), List.take_length]; rfl
theorem hd_rng (K : Nat → Nat) (es : List E) (k t : Nat) : 0 ≤ hd K es k t ∧ hd K es k t ≤ k := by
  induction k with
  | zero => exact ⟨Int.le_refl _, Int.le_refl _⟩
  | succ k ih =>
    rw [hd]
    split
    · dsimp only; split <;> omega
    · omega

/-- Edges from b to another knot t. -/
def fb (K : Nat → Nat) (b t : Nat) (e : E) : Bool := decide (K e.1.toNat = b) && (decide (K e.2.1.toNat = t) && decide (t ≠ b))
/-- The program's round over the edges: what is held, what has come free. -/
def rlw (K : Nat → Nat) (es : List E) (b : Nat) (W : Nat → Int) : Nat → Nat → Int
  | 0 => W
  | k + 1 => if K (at3 es k).1.toNat = b ∧ K (at3 es k).2.1.toNat ≠ b then fun t => if t = K (at3 es k).2.1.toNat then rlw K es b W k t - 1 else rlw K es b W k t else rlw K es b W k
def rlf (K : Nat → Nat) (es : List E) (b : Nat) (W : Nat → Int) : Nat → List Nat
  | 0 => []
  | k + 1 => if K (at3 es k).1.toNat = b ∧ K (at3 es k).2.1.toNat ≠ b then if rlw K es b W k (K (at3 es k).2.1.toNat) - 1 = 0 then rlf K es b W k ++ [K (at3 es k).2.1.toNat] else rlf K es b W k else rlf K es b W k
theorem rlw_yes {K : Nat → Nat} {es : List E} {b : Nat} {W : Nat → Int} {k : Nat} (h : K (at3 es k).1.toNat = b ∧ K (at3 es k).2.1.toNat ≠ b) : rlw K es b W (k + 1) = fun t => if t = K (at3 es k).2.1.toNat then rlw K es b W k t - 1 else rlw K es b W k t := by rw [rlw, if_pos h]
theorem rlw_no {K : Nat → Nat} {es : List E} {b : Nat} {W : Nat → Int} {k : Nat} (h : ¬ (K (at3 es k).1.toNat = b ∧ K (at3 es k).2.1.toNat ≠ b)) : rlw K es b W (k + 1) = rlw K es b W k := by rw [rlw, if_neg h]
theorem rlf_yes {K : Nat → Nat} {es : List E} {b : Nat} {W : Nat → Int} {k : Nat} (h : K (at3 es k).1.toNat = b ∧ K (at3 es k).2.1.toNat ≠ b) (h2 : rlw K es b W k (K (at3 es k).2.1.toNat) - 1 = 0) : rlf K es b W (k + 1) = rlf K es b W k ++ [K (at3 es k).2.1.toNat] := by rw [rlf, if_pos h, if_pos h2]
theorem rlf_mid {K : Nat → Nat} {es : List E} {b : Nat} {W : Nat → Int} {k : Nat} (h : K (at3 es k).1.toNat = b ∧ K (at3 es k).2.1.toNat ≠ b) (h2 : ¬ rlw K es b W k (K (at3 es k).2.1.toNat) - 1 = 0) : rlf K es b W (k + 1) = rlf K es b W k := by rw [rlf, if_pos h, if_neg h2]
theorem rlf_no {K : Nat → Nat} {es : List E} {b : Nat} {W : Nat → Int} {k : Nat} (h : ¬ (K (at3 es k).1.toNat = b ∧ K (at3 es k).2.1.toNat ≠ b)) : rlf K es b W (k + 1) = rlf K es b W k := by rw [rlf, if_neg h]
theorem rlf_len (K : Nat → Nat) (es : List E) (b : Nat) (W : Nat → Int) (k : Nat) : (rlf K es b W k).length ≤ k := by
  induction k with
  | zero => exact Nat.le_refl _
  | succ k ih =>
    rw [rlf]
    split
    · split
      · rw [List.length_append, List.length_singleton]; omega
      · omega
    · omega
theorem rlf_to {N : Nat} {es : List E} {K : Nat → Nat} (hk : Kok N es K) (b : Nat) (W : Nat → Int) (k : Nat) (h : k ≤ es.length) : ∀ t ∈ rlf K es b W k, t ∈ kl K N := by
  induction k with
  | zero => intro t ht; cases ht
  | succ k ih =>
    have ih := ih (by omega)
    rw [rlf]
    split
    · split
      · intro t ht
        rcases List.mem_append.1 ht with ht | ht
        · exact ih t ht
        · rw [List.mem_singleton.1 ht]; exact hk.tox (mem_at (by omega))
      · exact ih
    · exact ih
theorem rlw_cnt {K : Nat → Nat} {es : List E} {b : Nat} {W : Nat → Int} (k : Nat) (h : k ≤ es.length) (t : Nat) : rlw K es b W k t = W t - ((es.take k).countP (fb K b t) : Nat) := by
  induction k with
  | zero => rw [rlw]; simp
  | succ k ih =>
    have ih := ih (by omega)
    rw [take_next (by omega), List.countP_append, List.countP_singleton]
    by_cases h1 : K (at3 es k).1.toNat = b ∧ K (at3 es k).2.1.toNat ≠ b
    · rw [rlw_yes h1]
      dsimp only
      by_cases h2 : t = K (at3 es k).2.1.toNat
      · subst h2
        have : fb K b (K (at3 es k).2.1.toNat) (at3 es k) = true := by unfold fb; simp [h1.1, h1.2]
        rw [if_pos rfl, ih, this]; simp; omega
      · have : fb K b t (at3 es k) = false := by unfold fb; have h3 : ¬ K (at3 es k).2.1.toNat = t := fun e => h2 e.symm; simp [h3]
        rw [if_neg h2, ih, this]; simp
    · rw [rlw_no h1, ih]
      have : fb K b t (at3 es k) = false := by
        unfold fb
        by_cases a : K (at3 es k).1.toNat = b
        · by_cases c : K (at3 es k).2.1.toNat = t
          · have : t = b := Classical.byContradiction fun hn => h1 ⟨a, by rw [c]; exact hn⟩
            simp [this]
          · simp [c]
        · simp [a]
      rw [this]; simp
theorem cnt_le (p : E → Bool) (es : List E) (k : Nat) : (es.take k).countP p ≤ es.countP p := by
  have := List.Sublist.countP_le (p := p) (List.take_sublist k es)
  exact this
/-- Free is what is held no more, but was. -/
theorem rlf_iff {K : Nat → Nat} {es : List E} {b : Nat} {W : Nat → Int} (hW : ∀ t, (es.countP (fb K b t) : Int) ≤ W t) (k : Nat) (h : k ≤ es.length) :
    (rlf K es b W k).Nodup ∧ ∀ t, t ∈ rlf K es b W k ↔ W t ≠ 0 ∧ rlw K es b W k t = 0 := by
  induction k with
  | zero =>
    refine ⟨List.Pairwise.nil, fun t => ?_⟩
    rw [rlf, rlw]
    constructor
    · intro h; cases h
    · rintro ⟨h1, h2⟩; exact absurd h2 h1
  | succ k ih =>
    obtain ⟨i1, i2⟩ := ih (by omega)
    by_cases h1 : K (at3 es k).1.toNat = b ∧ K (at3 es k).2.1.toNat ≠ b
    · have hpos : ∀ t, 0 ≤ rlw K es b W (k + 1) t := fun t => by
        rw [rlw_cnt _ h]; have := hW t; have := cnt_le (fb K b t) es (k + 1); omega
      have hw0 : W (K (at3 es k).2.1.toNat) ≠ 0 := by
        have a := hpos (K (at3 es k).2.1.toNat)
        rw [rlw_yes h1] at a
        dsimp only at a
        rw [if_pos rfl, rlw_cnt k (by omega)] at a
        omega
      by_cases h2 : rlw K es b W k (K (at3 es k).2.1.toNat) - 1 = 0
      · rw [rlf_yes h1 h2, rlw_yes h1]
        dsimp only
        have hnm : K (at3 es k).2.1.toNat ∉ rlf K es b W k := fun hm => by have := ((i2 _).1 hm).2; omega
        refine ⟨List.nodup_append.2 ⟨i1, List.pairwise_singleton _ _, fun a ha c hc => ?_⟩, fun t => ?_⟩
        · rw [List.mem_singleton.1 hc]; intro e; rw [e] at ha; exact hnm ha
        · rw [List.mem_append, List.mem_singleton]
          by_cases e : t = K (at3 es k).2.1.toNat
          · rw [e, if_pos rfl]; exact ⟨fun _ => ⟨hw0, h2⟩, fun _ => .inr rfl⟩
          · rw [if_neg e, i2 t]; exact ⟨fun h => h.elim id (fun h => absurd h e), fun h => .inl h⟩
      · rw [rlf_mid h1 h2, rlw_yes h1]
        dsimp only
        refine ⟨i1, fun t => ?_⟩
        by_cases e : t = K (at3 es k).2.1.toNat
        · rw [e, if_pos rfl, i2]
          have a := hpos (K (at3 es k).2.1.toNat)
          rw [rlw_yes h1] at a
          dsimp only at a
          rw [if_pos rfl] at a
          constructor
          · rintro ⟨_, h⟩; omega
          · rintro ⟨_, h⟩; exact absurd h h2
        · rw [if_neg e]; exact i2 t
    · rw [rlf_no h1, rlw_no h1]; exact ⟨i1, i2⟩
theorem wt_erase (K : Nat → Nat) {l : List Nat} (hn : l.Nodup) {b : Nat} (hb : b ∈ l) (t : Nat) (es : List E) : wt K es l t = wt K es (l.erase b) t + es.countP (fb K b t) := by
  unfold wt
  induction es with
  | nil => rfl
  | cons e es ih =>
    rw [List.countP_cons, List.countP_cons, List.countP_cons, ih]
    have hm : K e.1.toNat ∈ l.erase b ↔ K e.1.toNat ≠ b ∧ K e.1.toNat ∈ l := hn.mem_erase_iff
    have : (if hw K l t e = true then 1 else 0) = (if hw K (l.erase b) t e = true then 1 else 0) + (if fb K b t e = true then 1 else 0 : Nat) := by
      unfold hw fb
      by_cases a : K e.1.toNat = b
      · have m1 : K e.1.toNat ∈ l := by rw [a]; exact hb
        have m2 : ¬ K e.1.toNat ∈ l.erase b := fun h => (hm.1 h).1 a
        by_cases c : K e.2.1.toNat = t
        · by_cases d : t = b
          · subst d; simp [a]
          · have d' : ¬ b = t := fun h => d h.symm
            rw [decide_eq_true m1, decide_eq_false m2]
            simp [a, c, d, d']
        · simp [c]
      · have m : K e.1.toNat ∈ l ↔ K e.1.toNat ∈ l.erase b := ⟨fun h => hm.2 ⟨a, h⟩, fun h => (hm.1 h).2⟩
        by_cases d : K e.1.toNat ∈ l
        · rw [decide_eq_true d, decide_eq_true (m.1 d)]; simp [a]
        · rw [decide_eq_false d, decide_eq_false (fun h => d (m.2 h))]; simp [a]
    omega
theorem wt_zero {K : Nat → Nat} {es : List E} {l : List Nat} {t : Nat} : wt K es l t = 0 ↔ l.all (fun a => !lk K es a t) = true := by
  unfold wt
  rw [List.countP_eq_zero, List.all_eq_true]
  constructor
  · intro h a ha
    cases hl : lk K es a t with
    | false => rfl
    | true =>
      unfold lk at hl
      rw [Bool.and_eq_true, List.any_eq_true] at hl
      obtain ⟨h1, e, he, h2⟩ := hl
      rw [Bool.and_eq_true] at h2
      have h3 := of_decide_eq_true h2.1
      have h4 := of_decide_eq_true h2.2
      have h5 : a ≠ t := of_decide_eq_true h1
      refine absurd ?_ (h e he)
      unfold hw
      rw [h3, h4, decide_eq_true ha]
      simp [h5]
  · intro h e he hh
    unfold hw at hh
    rw [Bool.and_eq_true, Bool.and_eq_true] at hh
    have h1 := of_decide_eq_true hh.1
    have h2 := of_decide_eq_true hh.2.1
    have h3 := of_decide_eq_true hh.2.2
    have := h _ h1
    have h4 : lk K es (K e.1.toNat) t = true := by
      unfold lk
      rw [Bool.and_eq_true, List.any_eq_true]
      exact ⟨decide_eq_true h3, e, he, by rw [h2]; simp⟩
    rw [h4] at this; cases this
theorem find_least {p : Nat → Bool} {b : Nat} : ∀ l : List Nat, l.Pairwise (fun a b => a < b) → b ∈ l → p b = true → (∀ x ∈ l, p x = true → b ≤ x) → l.find? p = some b := by
  intro l
  induction l with
  | nil => intro _ h; cases h
  | cons x l ih =>
    intro hs hb hp hm
    rw [List.find?_cons]
    cases hx : p x with
    | true =>
      have h1 := hm x List.mem_cons_self hx
      rcases List.mem_cons.1 hb with e | hb
      · rw [e]
      · have := (List.pairwise_cons.1 hs).1 b hb; omega
    | false =>
      rcases List.mem_cons.1 hb with e | hb
      · subst e; rw [hp] at hx; cases hx
      · exact ih (List.pairwise_cons.1 hs).2 hb hp (fun y hy => hm y (List.mem_cons_of_mem _ hy))

theorem sub_len : ∀ l m : List Nat, l.Nodup → (∀ x ∈ l, x ∈ m) → l.length ≤ m.length := by
  intro l
  induction l with
  | nil => intro m _ _; exact Nat.zero_le _
  | cons x l ih =>
    intro m hn hs
    rw [List.nodup_cons] at hn
    have hx := hs x List.mem_cons_self
    have := ih (m.erase x) hn.2 (fun y hy => (List.mem_erase_of_ne (fun e => hn.1 (by rw [← e]; exact hy))).2 (hs y (List.mem_cons_of_mem _ hy)))
    have := erase_len hx
    simp; omega
/-- In the middle of it: what stays, what is free, what holds, what has come. -/
structure Kah (K : Nat → Nat) (N : Nat) (es : List E) (l ps : List Nat) (W : Nat → Int) (out : List Nat) : Prop where
  srt : l.Pairwise (fun a b => a < b)
  sub : ∀ t ∈ l, t ∈ kl K N
  w : ∀ t, W t = (wt K es l t : Nat)
  z : ∀ t, t ∉ l → wt K es l t = 0
  nd : ps.Nodup
  fr : ∀ t, t ∈ ps ↔ t ∈ l ∧ wt K es l t = 0
  tot : out ++ ord (lk K es) l = ord (lk K es) (kl K N)
theorem kah_start {N : Nat} {es : List E} {K : Nat → Nat} (hk : Kok N es K) {ps : List Nat} (hp : ps.Perm ((kl K N).filter (fun v => decide (hd K es es.length v = 0)))) : Kah K N es (kl K N) ps (hd K es es.length) [] := by
  refine ⟨kl_lt K N, fun t ht => ht, fun t => hd_wt hk t, fun t ht => ?_, ?_, fun t => ?_, rfl⟩
  · unfold wt
    rw [List.countP_eq_zero]
    intro e he hh
    unfold hw at hh
    rw [Bool.and_eq_true, Bool.and_eq_true] at hh
    have h2 := of_decide_eq_true hh.2.1
    exact ht (h2 ▸ hk.tox he)
  · exact hp.nodup_iff.2 ((lt_nodup (kl_lt K N)).filter _)
  · rw [hp.mem_iff, List.mem_filter, decide_eq_true_iff, hd_wt hk t]
    constructor
    · rintro ⟨h1, h2⟩; exact ⟨h1, by omega⟩
    · rintro ⟨h1, h2⟩; exact ⟨h1, by omega⟩
theorem Kah.next {N : Nat} {es : List E} {K : Nat → Nat} {l ps : List Nat} {W : Nat → Int} {out : List Nat} (h : Kah K N es l ps W out) {b : Nat} (hb : b ∈ ps) (hm : ∀ x ∈ ps, b ≤ x) : nxt (lk K es) l = some b := by
  obtain ⟨h1, h2⟩ := (h.fr b).1 hb
  exact find_least l h.srt h1 (wt_zero.1 h2) (fun x hx hp => hm x ((h.fr x).2 ⟨hx, wt_zero.2 hp⟩))
theorem Kah.done {N : Nat} {es : List E} {K : Nat → Nat} {l : List Nat} {W : Nat → Int} {out : List Nat} (h : Kah K N es l [] W out) : out = ord (lk K es) (kl K N) := by
  have hn : nxt (lk K es) l = none := by
    unfold nxt
    rw [List.find?_eq_none]
    intro x hx hp
    have := (h.fr x).2 ⟨hx, wt_zero.2 hp⟩
    cases this
  have := h.tot
  rw [ord_none hn, List.append_nil] at this
  exact this
theorem Kah.step {N : Nat} {es : List E} {K : Nat → Nat} (hk : Kok N es K) {l ps ps' qs : List Nat} {W : Nat → Int} {out : List Nat} (h : Kah K N es l ps W out) {b : Nat} (hp : ps.Perm (b :: ps')) (hm : ∀ x ∈ ps, b ≤ x) (hq : qs.Perm (ps' ++ rlf K es b W es.length)) :
    Kah K N es (l.erase b) qs (rlw K es b W es.length) (out ++ [b]) := by
  have hb : b ∈ ps := hp.mem_iff.2 List.mem_cons_self
  have hn := h.next hb hm
  have hnl := lt_nodup h.srt
  have hbl := nxt_mem hn
  have hwe := fun t => wt_erase K hnl hbl t es
  have hW : ∀ t, (es.countP (fb K b t) : Int) ≤ W t := fun t => by rw [h.w t, hwe t]; omega
  have hw' : ∀ t, rlw K es b W es.length t = (wt K es (l.erase b) t : Nat) := fun t => by
    rw [rlw_cnt _ (Nat.le_refl _), List.take_length, h.w t, hwe t]; omega
  obtain ⟨f1, f2⟩ := rlf_iff hW es.length (Nat.le_refl _)
  have hnd := hp.nodup_iff.1 h.nd
  rw [List.nodup_cons] at hnd
  have hps : ∀ t, t ∈ ps' ↔ t ∈ ps ∧ t ≠ b := fun t => by
    rw [hp.mem_iff, List.mem_cons]
    constructor
    · intro h; exact ⟨.inr h, fun e => hnd.1 (e ▸ h)⟩
    · rintro ⟨h | h, hne⟩
      · exact absurd h hne
      · exact h
  refine ⟨h.srt.sublist (List.erase_sublist), fun t ht => h.sub t (List.mem_of_mem_erase ht), hw', fun t ht => ?_, ?_, fun t => ?_, ?_⟩
  · have h1 := hwe t
    by_cases e : t = b
    · subst e; have := ((h.fr t).1 hb).2; omega
    · have h2 : t ∉ l := fun h => ht (hnl.mem_erase_iff.2 ⟨e, h⟩)
      have := h.z t h2; omega
  · refine hq.nodup_iff.2 (List.nodup_append.2 ⟨hnd.2, f1, fun a ha c hc e => ?_⟩)
    subst e
    have h1 := ((f2 a).1 hc).1
    have h2 := ((h.fr a).1 ((hps a).1 ha).1).2
    rw [h.w a, h2] at h1
    exact h1 rfl
  · rw [hq.mem_iff, List.mem_append, hps t, f2 t, h.fr t, hw' t, hnl.mem_erase_iff]
    have h1 := hwe t
    have h3 := h.w t
    constructor
    · rintro (⟨⟨h4, h5⟩, h6⟩ | ⟨h4, h5⟩)
      · exact ⟨⟨h6, h4⟩, by omega⟩
      · have h6 : t ∈ l := Classical.byContradiction fun hc => by have := h.z t hc; omega
        have h7 : t ≠ b := fun e => by subst e; have := ((h.fr t).1 hb).2; omega
        exact ⟨⟨h7, h6⟩, by omega⟩
    · rintro ⟨⟨h6, h4⟩, h5⟩
      by_cases hz : wt K es l t = 0
      · exact .inl ⟨⟨h4, hz⟩, h6⟩
      · exact .inr ⟨by omega, by omega⟩
  · rw [← h.tot, ord_some hn]; simp
end Go.Proofs.Ytkklgnfimkojlaa.Km
