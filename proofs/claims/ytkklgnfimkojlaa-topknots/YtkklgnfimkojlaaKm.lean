/-
  Plain knots: places that lead to each other, and what comes next where nothing leads to it. No Go in sight.
-/
import Derived.Test.YtkklgnfimkojlaaFm
namespace Go.Proofs.Ytkklgnfimkojlaa.Km
open Nm Wm Dm Bm Fm
set_option linter.unusedSimpArgs false
set_option linter.unusedVariables false

/-- Where walks lead: each place to itself, and on. -/
structure Lds (N : Nat) (es : List E) (R : Nat → Nat → Bool) : Prop where
  iff : ∀ u v, v < N → (R u v = true ↔ ∃ j, Wk (fun _ => true) es u j v)
theorem lds_fwb {N : Nat} {es : List E} (hi : Inn N es) : Lds N es (fwb (fun _ => true) es N) :=
  ⟨fun u v _ => fwb_iff hi u⟩
theorem lds_rrd {N : Nat} {es : List E} (hi : Inn N es) : Lds N es (fun u => rrd (fun _ => true) es (one u) N) :=
  ⟨fun u v hv => rrd_iff hi u hv⟩
theorem Lds.self {N : Nat} {es : List E} {R : Nat → Nat → Bool} (h : Lds N es R) {v : Nat} (hv : v < N) : R v v = true := (h.iff v v hv).2 ⟨0, rfl⟩
theorem Lds.trans {N : Nat} {es : List E} {R : Nat → Nat → Bool} (h : Lds N es R) {a b c : Nat} (hb : b < N) (hc : c < N) (h1 : R a b = true) (h2 : R b c = true) : R a c = true := by
  obtain ⟨i, hi⟩ := (h.iff a b hb).1 h1
  obtain ⟨j, hj⟩ := (h.iff b c hc).1 h2
  exact (h.iff a c hc).2 ⟨i + j, wk_app hi j c hj⟩
theorem Lds.edge {N : Nat} {es : List E} {R : Nat → Nat → Bool} (h : Lds N es R) (hi : Inn N es) {e : E} (he : e ∈ es) : R e.1.toNat e.2.1.toNat = true :=
  (h.iff _ _ (hi e he).2).2 ⟨1, wk_one he rfl⟩
theorem Lds.eq {N : Nat} {es : List E} {R S : Nat → Nat → Bool} (h : Lds N es R) (h' : Lds N es S) {u v : Nat} (hv : v < N) : R u v = S u v := by
  have h1 := h.iff u v hv
  have h2 := h'.iff u v hv
  cases a : R u v <;> cases b : S u v
  · rfl
  · exact absurd (h1.2 (h2.1 b)) (by simp [a])
  · exact absurd (h2.2 (h1.1 a)) (by simp [b])
  · rfl
/-- What holds of a place and goes on over each edge holds of all that it leads to. -/
theorem wk_ind {es : List E} {P : Nat → Prop} (hs : ∀ e ∈ es, P e.1.toNat → P e.2.1.toNat) {u : Nat} (h0 : P u) (j : Nat) : ∀ v, Wk (fun _ => true) es u j v → P v := by
  induction j with
  | zero => intro v h; rw [show v = u from h]; exact h0
  | succ j ih =>
    rintro v ⟨e, he, _, rfl, h2⟩
    exact hs e he (ih _ h2)
theorem Lds.ind {N : Nat} {es : List E} {R : Nat → Nat → Bool} (h : Lds N es R) {P : Nat → Prop} (hs : ∀ e ∈ es, P e.1.toNat → P e.2.1.toNat) {u v : Nat} (hv : v < N) (hr : R u v = true) (h0 : P u) : P v := by
  obtain ⟨j, hj⟩ := (h.iff u v hv).1 hr
  exact wk_ind hs h0 j v hj

/-- Both lead to each other. -/
def bth (R : Nat → Nat → Bool) (u v : Nat) : Bool := R u v && R v u
/-- The least place that leads to v and that v leads to. -/
def kn (R : Nat → Nat → Bool) (v : Nat) : Nat := ((List.range v).find? (fun u => bth R u v)).getD v
/-- What the least is. -/
structure Kn (R : Nat → Nat → Bool) (v k : Nat) : Prop where
  le : k ≤ v
  b : k < v → bth R k v = true
  no : ∀ u, u < k → bth R u v = false
theorem Kn.eq {R : Nat → Nat → Bool} {v a b : Nat} (h1 : Kn R v a) (h2 : Kn R v b) : a = b := by
  rcases Nat.lt_trichotomy a b with h | h | h
  · have := h2.no a h
    have h3 := h2.le
    rw [h1.b (by omega)] at this; cases this
  · exact h
  · have := h1.no b h
    have h3 := h1.le
    rw [h2.b (by omega)] at this; cases this
theorem kn_is (R : Nat → Nat → Bool) (v : Nat) : Kn R v (kn R v) := by
  unfold kn
  cases h : (List.range v).find? (fun u => bth R u v) with
  | none =>
    rw [List.find?_eq_none] at h
    refine ⟨Nat.le_refl _, fun h1 => absurd h1 (Nat.lt_irrefl _), fun u hu => ?_⟩
    have := h u (List.mem_range.2 hu)
    simpa using this
  | some k =>
    rw [List.find?_range_eq_some] at h
    obtain ⟨h1, h2, h3⟩ := h
    refine ⟨Nat.le_of_lt (List.mem_range.1 h2), fun _ => h1, fun u hu => ?_⟩
    have := h3 u hu
    simpa using this
theorem kn_eq {R : Nat → Nat → Bool} {v k : Nat} (h : Kn R v k) : kn R v = k := (kn_is R v).eq h
theorem kn_le (R : Nat → Nat → Bool) (v : Nat) : kn R v ≤ v := (kn_is R v).le
theorem kn_lt {N : Nat} (R : Nat → Nat → Bool) {v : Nat} (hv : v < N) : kn R v < N := Nat.lt_of_le_of_lt (kn_le R v) hv
theorem kn_congr {N : Nat} {R S : Nat → Nat → Bool} (h : ∀ u v, u < N → v < N → R u v = S u v) {v : Nat} (hv : v < N) : kn R v = kn S v := by
  have h1 := kn_is S v
  have h2 := h1.le
  refine kn_eq ⟨h1.le, fun hl => ?_, fun u hu => ?_⟩
  · have := h1.b hl
    unfold bth at this ⊢
    rw [h _ _ (by omega) hv, h _ _ hv (by omega)]; exact this
  · have := h1.no u hu
    unfold bth at this ⊢
    rw [h _ _ (by omega) hv, h _ _ hv (by omega)]; exact this
theorem bth_comm (R : Nat → Nat → Bool) (u v : Nat) : bth R u v = bth R v u := Bool.and_comm _ _
theorem Lds.kb {N : Nat} {es : List E} {R : Nat → Nat → Bool} (h : Lds N es R) {v : Nat} (hv : v < N) : bth R (kn R v) v = true := by
  have h1 := kn_is R v
  rcases (show kn R v < v ∨ kn R v = v by have := h1.le; omega) with h2 | h2
  · exact h1.b h2
  · rw [h2]; unfold bth; rw [h.self hv]; rfl
theorem Lds.to {N : Nat} {es : List E} {R : Nat → Nat → Bool} (h : Lds N es R) {v : Nat} (hv : v < N) : R (kn R v) v = true ∧ R v (kn R v) = true := by
  have := h.kb hv; unfold bth at this; rw [Bool.and_eq_true] at this; exact this
theorem Lds.btrans {N : Nat} {es : List E} {R : Nat → Nat → Bool} (h : Lds N es R) {a b c : Nat} (ha : a < N) (hb : b < N) (hc : c < N) (h1 : bth R a b = true) (h2 : bth R b c = true) : bth R a c = true := by
  unfold bth at h1 h2 ⊢
  rw [Bool.and_eq_true] at h1 h2 ⊢
  exact ⟨h.trans hb hc h1.1 h2.1, h.trans hb ha h2.2 h1.2⟩
/-- Two places are in one knot just if walks lead both ways. -/
theorem Lds.kn_iff {N : Nat} {es : List E} {R : Nat → Nat → Bool} (h : Lds N es R) {u v : Nat} (hu : u < N) (hv : v < N) : kn R u = kn R v ↔ bth R u v = true := by
  have a := kn_lt R hu
  have b := kn_lt R hv
  have h1 := h.kb hu
  have h2 := h.kb hv
  constructor
  · intro e
    rw [bth_comm, e] at h1
    exact h.btrans hu b hv h1 h2
  · intro e
    have h3 := h.btrans a hu hv h1 e
    have h4 := h.btrans b hv hu h2 (by rw [bth_comm]; exact e)
    rcases Nat.lt_trichotomy (kn R u) (kn R v) with c | c | c
    · have := (kn_is R v).no _ c; rw [h3] at this; cases this
    · exact c
    · have := (kn_is R u).no _ c; rw [h4] at this; cases this
theorem Lds.kn_kn {N : Nat} {es : List E} {R : Nat → Nat → Bool} (h : Lds N es R) {v : Nat} (hv : v < N) : kn R (kn R v) = kn R v := (h.kn_iff (kn_lt R hv) hv).2 (h.kb hv)

/-- Next: the least to which nothing leads. -/
def nxt (ld : Nat → Nat → Bool) (l : List Nat) : Option Nat := l.find? (fun b => l.all (fun a => !ld a b))
def ordf (ld : Nat → Nat → Bool) : Nat → List Nat → List Nat
  | 0, _ => []
  | f + 1, l => match nxt ld l with
    | none => []
    | some b => b :: ordf ld f (l.erase b)
abbrev ord (ld : Nat → Nat → Bool) (l : List Nat) : List Nat := ordf ld l.length l
theorem ordf_none {ld : Nat → Nat → Bool} {l : List Nat} (f : Nat) (h : nxt ld l = none) : ordf ld f l = [] := by
  cases f with
  | zero => rfl
  | succ f => rw [ordf, h]
theorem ordf_some {ld : Nat → Nat → Bool} {l : List Nat} {b : Nat} (f : Nat) (h : nxt ld l = some b) : ordf ld (f + 1) l = b :: ordf ld f (l.erase b) := by
  rw [ordf, h]
theorem nxt_mem {ld : Nat → Nat → Bool} {l : List Nat} {b : Nat} (h : nxt ld l = some b) : b ∈ l := List.mem_of_find?_eq_some h
theorem nxt_no {ld : Nat → Nat → Bool} {l : List Nat} {b : Nat} (h : nxt ld l = some b) : ∀ a ∈ l, ld a b = false := by
  have := List.find?_some h
  rw [List.all_eq_true] at this
  intro a ha
  have := this a ha
  simpa using this
theorem erase_len {l : List Nat} {b : Nat} (h : b ∈ l) : (l.erase b).length + 1 = l.length := by
  have := List.length_erase_of_mem h
  have : 0 < l.length := List.length_pos_of_mem h
  omega
/-- Looked again: one comes, the rest stays. -/
theorem ord_some {ld : Nat → Nat → Bool} {l : List Nat} {b : Nat} (h : nxt ld l = some b) : ord ld l = b :: ord ld (l.erase b) := by
  have h1 := erase_len (nxt_mem h)
  unfold ord
  rw [← h1, ordf_some _ h]
theorem ord_none {ld : Nat → Nat → Bool} {l : List Nat} (h : nxt ld l = none) : ord ld l = [] := ordf_none _ h
theorem find_congr {p q : Nat → Bool} : ∀ l : List Nat, (∀ b ∈ l, p b = q b) → l.find? p = l.find? q := by
  intro l
  induction l with
  | nil => intro _; rfl
  | cons x l ih =>
    intro h
    rw [List.find?_cons, List.find?_cons, h x List.mem_cons_self, ih (fun b hb => h b (List.mem_cons_of_mem _ hb))]
theorem nxt_congr {ld ld' : Nat → Nat → Bool} {l : List Nat} (h : ∀ a ∈ l, ∀ b ∈ l, ld a b = ld' a b) : nxt ld l = nxt ld' l := by
  unfold nxt
  apply find_congr
  intro b hb
  rw [Bool.eq_iff_iff, List.all_eq_true, List.all_eq_true]
  constructor
  · intro h1 a ha; rw [← h a ha b hb]; exact h1 a ha
  · intro h1 a ha; rw [h a ha b hb]; exact h1 a ha
theorem ordf_congr {ld ld' : Nat → Nat → Bool} (f : Nat) : ∀ l : List Nat, (∀ a ∈ l, ∀ b ∈ l, ld a b = ld' a b) → ordf ld f l = ordf ld' f l := by
  induction f with
  | zero => intro l _; rfl
  | succ f ih =>
    intro l h
    have h1 := nxt_congr h
    cases hn : nxt ld l with
    | none => rw [ordf_none _ hn, ordf_none _ (h1.symm.trans hn)]
    | some b =>
      rw [ordf_some _ hn, ordf_some _ (h1.symm.trans hn), ih]
      exact fun a ha c hc => h a (List.mem_of_mem_erase ha) c (List.mem_of_mem_erase hc)
theorem ordf_sub {ld : Nat → Nat → Bool} (f : Nat) : ∀ l : List Nat, ∀ x ∈ ordf ld f l, x ∈ l := by
  induction f with
  | zero => intro l x h; cases h
  | succ f ih =>
    intro l x h
    cases hn : nxt ld l with
    | none => rw [ordf_none _ hn] at h; cases h
    | some b =>
      rw [ordf_some _ hn] at h
      rcases List.mem_cons.1 h with rfl | h
      · exact nxt_mem hn
      · exact List.mem_of_mem_erase (ih _ x h)
theorem ordf_nodup {ld : Nat → Nat → Bool} (f : Nat) : ∀ l : List Nat, l.Nodup → (ordf ld f l).Nodup := by
  induction f with
  | zero => intro l _; exact List.Pairwise.nil
  | succ f ih =>
    intro l h
    cases hn : nxt ld l with
    | none => rw [ordf_none _ hn]; exact List.Pairwise.nil
    | some b =>
      rw [ordf_some _ hn]
      refine List.nodup_cons.2 ⟨fun hb => ?_, ih _ (h.erase b)⟩
      exact absurd (ordf_sub f _ b hb) (h.not_mem_erase)
/-- None behind leads to one ahead. -/
theorem ordf_fwd {ld : Nat → Nat → Bool} (f : Nat) : ∀ l : List Nat, (ordf ld f l).Pairwise (fun x y => ld y x = false) ∧ ∀ x ∈ ordf ld f l, ld x x = false := by
  induction f with
  | zero => intro l; exact ⟨List.Pairwise.nil, fun x h => by cases h⟩
  | succ f ih =>
    intro l
    cases hn : nxt ld l with
    | none => rw [ordf_none _ hn]; exact ⟨List.Pairwise.nil, fun x h => by cases h⟩
    | some b =>
      rw [ordf_some _ hn]
      obtain ⟨h1, h2⟩ := ih (l.erase b)
      have h3 := nxt_no hn
      refine ⟨List.pairwise_cons.2 ⟨fun y hy => h3 y (List.mem_of_mem_erase (ordf_sub f _ y hy)), h1⟩, fun x hx => ?_⟩
      rcases List.mem_cons.1 hx with rfl | hx
      · exact h3 _ (nxt_mem hn)
      · exact h2 x hx
theorem ordf_len {ld : Nat → Nat → Bool} (f : Nat) (l : List Nat) : (ordf ld f l).length ≤ f := by
  induction f generalizing l with
  | zero => exact Nat.le_refl _
  | succ f ih =>
    cases hn : nxt ld l with
    | none => rw [ordf_none _ hn]; exact Nat.zero_le _
    | some b => rw [ordf_some _ hn]; have := ih (l.erase b); simp; omega
/-- The place of one in a list. -/
def ix (l : List Nat) (a : Nat) : Nat := l.idxOf a
theorem ix_lt {l : List Nat} {a : Nat} (h : a ∈ l) : ix l a < l.length := List.idxOf_lt_length_of_mem h
theorem ix_get {l : List Nat} {a : Nat} (h : a ∈ l) : l[ix l a]? = some a := by
  unfold ix
  rw [List.getElem?_eq_getElem (List.idxOf_lt_length_of_mem h), List.getElem_idxOf]
theorem ix_at {l : List Nat} (hn : l.Nodup) {i : Nat} (h : i < l.length) : ix l l[i] = i := by
  unfold ix
  have h1 : l[i] ∈ l := List.getElem_mem h
  have h2 := ix_lt h1
  have h3 := ix_get h1
  unfold ix at h2 h3
  exact (List.getElem?_inj h2 hn).1 (by rw [h3, List.getElem?_eq_getElem h])
theorem ix_inj {l : List Nat} {a b : Nat} (ha : a ∈ l) (hb : b ∈ l) (h : ix l a = ix l b) : a = b := by
  have h1 := ix_get ha
  have h2 := ix_get hb
  rw [h, h2] at h1
  injection h1 with h1
  exact h1.symm
/-- What leads on comes ahead. -/
theorem ix_fwd {ld : Nat → Nat → Bool} {l : List Nat} (h : l.Pairwise (fun x y => ld y x = false)) {a b : Nat} (ha : a ∈ l) (hb : b ∈ l) (hne : a ≠ b) (hl : ld a b = true) : ix l a < ix l b := by
  rcases Nat.lt_trichotomy (ix l a) (ix l b) with c | c | c
  · exact c
  · exact absurd (ix_inj ha hb c) hne
  · have h1 := ix_lt ha
    have h2 := ix_lt hb
    have h3 := List.pairwise_iff_getElem.1 h _ _ h2 h1 c
    have e1 : l[ix l a] = a := by have := ix_get ha; rw [List.getElem?_eq_getElem h1] at this; exact Option.some.inj this
    have e2 : l[ix l b] = b := by have := ix_get hb; rw [List.getElem?_eq_getElem h2] at this; exact Option.some.inj this
    rw [e1, e2, hl] at h3; cases h3

theorem filter_lt {p q : Nat → Bool} {l : List Nat} (h : ∀ x ∈ l, p x = true → q x = true) {b : Nat} (hb : b ∈ l) (h1 : p b = false) (h2 : q b = true) : (l.filter p).length < (l.filter q).length := by
  induction l with
  | nil => cases hb
  | cons x l ih =>
    have hm : (l.filter p).length ≤ (l.filter q).length := by
      have h0 : ∀ y ∈ l, p y = true → q y = true := fun y hy => h y (List.mem_cons_of_mem _ hy)
      rw [← List.countP_eq_length_filter, ← List.countP_eq_length_filter]
      exact List.countP_mono_left h0
    rcases List.mem_cons.1 hb with e | hb'
    · subst e
      rw [List.filter_cons, List.filter_cons, h1, h2]
      simp; omega
    · have := ih (fun y hy => h y (List.mem_cons_of_mem _ hy)) hb'
      rw [List.filter_cons, List.filter_cons]
      cases hp : p x with
      | true => rw [h x List.mem_cons_self hp]; simpa using this
      | false => cases q x <;> simp <;> omega
theorem least_by (r : Nat → Nat) : ∀ l : List Nat, l ≠ [] → ∃ b ∈ l, ∀ a ∈ l, r b ≤ r a := by
  intro l
  induction l with
  | nil => intro h; exact absurd rfl h
  | cons x l ih =>
    intro _
    by_cases h : l = []
    · subst h; exact ⟨x, List.mem_cons_self, fun a ha => by rcases List.mem_cons.1 ha with rfl | h; exact Nat.le_refl _; cases h⟩
    · obtain ⟨b, hb, hm⟩ := ih h
      by_cases hx : r x ≤ r b
      · refine ⟨x, List.mem_cons_self, fun a ha => ?_⟩
        rcases List.mem_cons.1 ha with rfl | ha
        · exact Nat.le_refl _
        · exact Nat.le_trans hx (hm a ha)
      · refine ⟨b, List.mem_cons_of_mem _ hb, fun a ha => ?_⟩
        rcases List.mem_cons.1 ha with rfl | ha
        · omega
        · exact hm a ha
/-- Where each leads only to what is higher, all come. -/
theorem ordf_all {ld : Nat → Nat → Bool} (r : Nat → Nat) (f : Nat) : ∀ l : List Nat, l.length ≤ f → (∀ a ∈ l, ∀ b ∈ l, ld a b = true → r a < r b) → (ordf ld f l).Perm l := by
  induction f with
  | zero => intro l hl _; rw [List.length_eq_zero_iff.1 (Nat.le_zero.1 hl)]; exact List.Perm.refl _
  | succ f ih =>
    intro l hl h
    cases hn : nxt ld l with
    | none =>
      by_cases he : l = []
      · subst he; rw [ordf_none _ hn]
      · obtain ⟨b, hb, hm⟩ := least_by r l he
        unfold nxt at hn
        rw [List.find?_eq_none] at hn
        refine absurd ?_ (hn b hb)
        rw [List.all_eq_true]
        intro a ha
        cases hla : ld a b with
        | false => rfl
        | true => have := h a ha b hb hla; have := hm a ha; omega
    | some b =>
      rw [ordf_some _ hn]
      have hb := nxt_mem hn
      have := erase_len hb
      exact ((ih (l.erase b) (by omega) (fun a ha c hc => h a (List.mem_of_mem_erase ha) c (List.mem_of_mem_erase hc))).cons b).trans (List.perm_cons_erase hb).symm
end Go.Proofs.Ytkklgnfimkojlaa.Km
