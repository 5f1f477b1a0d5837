/-
  Plain: the knots' order has each knot and leads on; nets without cycles; the most that a walk costs. No Go in sight.
-/
import Derived.Test.YtkklgnfimkojlaaKp
namespace Go.Proofs.Ytkklgnfimkojlaa.Km
open Nm Wm Dm Bm Fm
set_option linter.unusedSimpArgs false
set_option linter.unusedVariables false

/-- An edge from a to b, where places are so named. -/
def edp (K : Nat → Nat) (a b : Nat) (e : E) : Bool := decide (K e.1.toNat = a) && decide (K e.2.1.toNat = b)
def le1 (es : List E) (a b : Nat) : Bool := es.any (edp (fun x => x) a b)
theorem le1_iff {es : List E} {a b : Nat} : le1 es a b = true ↔ ∃ e ∈ es, e.1.toNat = a ∧ e.2.1.toNat = b := by
  unfold le1 edp
  rw [List.any_eq_true]
  constructor
  · rintro ⟨e, he, h⟩
    rw [Bool.and_eq_true] at h
    exact ⟨e, he, of_decide_eq_true h.1, of_decide_eq_true h.2⟩
  · rintro ⟨e, he, h1, h2⟩
    exact ⟨e, he, by rw [Bool.and_eq_true]; exact ⟨decide_eq_true h1, decide_eq_true h2⟩⟩
theorem lk_iff {K : Nat → Nat} {es : List E} {a b : Nat} : lk K es a b = true ↔ a ≠ b ∧ ∃ e ∈ es, K e.1.toNat = a ∧ K e.2.1.toNat = b := by
  unfold lk
  rw [Bool.and_eq_true, List.any_eq_true]
  constructor
  · rintro ⟨h0, e, he, h⟩
    rw [Bool.and_eq_true] at h
    exact ⟨of_decide_eq_true h0, e, he, of_decide_eq_true h.1, of_decide_eq_true h.2⟩
  · rintro ⟨h0, e, he, h1, h2⟩
    exact ⟨decide_eq_true h0, e, he, by rw [Bool.and_eq_true]; exact ⟨decide_eq_true h1, decide_eq_true h2⟩⟩
theorem eq_of_iff {a b : Bool} (h : a = true ↔ b = true) : a = b := by
  cases a <;> cases b <;> simp_all
/-- The knots in their order are all knots. -/
theorem Lds.perm {N : Nat} {es : List E} {R : Nat → Nat → Bool} (h : Lds N es R) (hi : Inn N es) : (ord (lk (kn R) es) (kl (kn R) N)).Perm (kl (kn R) N) := by
  refine ordf_all (fun k => ((List.range N).filter (fun v => R v k)).length) _ _ (Nat.le_refl _) (fun a ha b hb hl => ?_)
  obtain ⟨hne, e, he, h1, h2⟩ := lk_iff.1 hl
  obtain ⟨ha1, ha2⟩ := kl_mem.1 ha
  obtain ⟨hb1, hb2⟩ := kl_mem.1 hb
  obtain ⟨i1, i2⟩ := hi e he
  have r1 := (h.to i1).1
  have r2 := h.edge hi he
  have r3 := (h.to i2).2
  rw [h1] at r1
  rw [h2] at r3
  have rab : R a b = true := h.trans i2 hb1 (h.trans i1 i2 r1 r2) r3
  refine filter_lt (fun v hv hp => h.trans ha1 hb1 hp rab) (List.mem_range.2 hb1) ?_ (h.self hb1)
  cases hc : R b a with
  | false => rfl
  | true =>
    have : kn R a = kn R b := (h.kn_iff ha1 hb1).2 (by unfold bth; rw [rab, hc]; rfl)
    rw [← ha2, ← hb2] at this
    exact absurd this hne
theorem mem_of_len {l m : List Nat} (hn : l.Nodup) (hs : ∀ x ∈ l, x ∈ m) (hl : m.length ≤ l.length) : ∀ x ∈ m, x ∈ l := by
  intro x hx
  refine Classical.byContradiction (fun hc => ?_)
  have h1 := sub_len l (m.erase x) hn (fun y hy => (List.mem_erase_of_ne (fun e => hc (by rw [← e]; exact hy))).2 (hs y hy))
  have h2 := erase_len hx
  omega
theorem ord_sub {ld : Nat → Nat → Bool} {l : List Nat} : ∀ x ∈ ord ld l, x ∈ l := ordf_sub _ _
theorem ord_nodup {ld : Nat → Nat → Bool} {l : List Nat} (h : l.Nodup) : (ord ld l).Nodup := ordf_nodup _ _ h
theorem ord_fwd (ld : Nat → Nat → Bool) (l : List Nat) : (ord ld l).Pairwise (fun x y => ld y x = false) ∧ ∀ x ∈ ord ld l, ld x x = false := ordf_fwd _ _
theorem ord_len (ld : Nat → Nat → Bool) (l : List Nat) : (ord ld l).length ≤ l.length := ordf_len _ _
/-- Over an edge the order leads on, or stays in the knot. -/
theorem Lds.on {N : Nat} {es : List E} {R : Nat → Nat → Bool} (h : Lds N es R) (hi : Inn N es) {e : E} (he : e ∈ es) (hne : kn R e.1.toNat ≠ kn R e.2.1.toNat) : ix (ord (lk (kn R) es) (kl (kn R) N)) (kn R e.1.toNat) < ix (ord (lk (kn R) es) (kl (kn R) N)) (kn R e.2.1.toNat) := by
  have hp := h.perm hi
  have hk := h.kok hi
  exact ix_fwd (ord_fwd _ _).1 (hp.mem_iff.2 (hk.frm he)) (hp.mem_iff.2 (hk.tox he)) hne (lk_iff.2 ⟨hne, e, he, rfl, rfl⟩)
/-- None behind leads to one ahead. -/
theorem Lds.back {N : Nat} {es : List E} {R : Nat → Nat → Bool} (h : Lds N es R) (hi : Inn N es) {a b : Nat} (ha : a ∈ Km.ord (lk (kn R) es) (kl (kn R) N)) (hb : b ∈ Km.ord (lk (kn R) es) (kl (kn R) N)) (hij : ix (Km.ord (lk (kn R) es) (kl (kn R) N)) b < ix (Km.ord (lk (kn R) es) (kl (kn R) N)) a) : R a b = false := by
  have ha := kl_mem.1 (ord_sub _ ha)
  have hb := kl_mem.1 (ord_sub _ hb)
  cases hr : R a b with
  | false => rfl
  | true =>
    have := h.ind (P := fun x => ix (Km.ord (lk (kn R) es) (kl (kn R) N)) a ≤ ix (Km.ord (lk (kn R) es) (kl (kn R) N)) (kn R x)) (fun e he hp => by
      by_cases hc : kn R e.1.toNat = kn R e.2.1.toNat
      · rw [← hc]; exact hp
      · exact Nat.le_of_lt (Nat.lt_of_le_of_lt hp (h.on hi he hc))) hb.1 hr (by rw [← ha.2]; exact Nat.le_refl _)
    rw [← hb.2] at this
    omega
theorem Lds.backi {N : Nat} {es : List E} {R : Nat → Nat → Bool} (h : Lds N es R) (hi : Inn N es) {C : List Nat} (hC : Km.ord (lk (kn R) es) (kl (kn R) N) = C) {i j : Nat} (hij : j < i) (hl : i < C.length) {a b : Nat} (ha : C[i]? = some a) (hb : C[j]? = some b) : R a b = false := by
  subst hC
  have hnd : (Km.ord (lk (kn R) es) (kl (kn R) N)).Nodup := ord_nodup (lt_nodup (kl_lt _ _))
  have hj : j < (Km.ord (lk (kn R) es) (kl (kn R) N)).length := by omega
  have xa := ix_at hnd hl
  have xb := ix_at hnd hj
  rw [List.getElem?_eq_getElem hl] at ha
  rw [List.getElem?_eq_getElem hj] at hb
  have ea := Option.some.inj ha
  have eb := Option.some.inj hb
  rw [ea] at xa
  rw [eb] at xb
  exact h.back hi (by rw [← ea]; exact List.getElem_mem hl) (by rw [← eb]; exact List.getElem_mem hj) (by omega)
/-- Each place a knot by itself, no edge to itself. -/
structure Acy (N : Nat) (es : List E) (K : Nat → Nat) : Prop where
  id : ∀ v, v < N → K v = v
  ns : ∀ e ∈ es, e.1.toNat ≠ e.2.1.toNat
theorem Acy.lk {N : Nat} {es : List E} {K : Nat → Nat} (h : Acy N es K) (hi : Inn N es) (a b : Nat) : lk K es a b = le1 es a b := by
  refine eq_of_iff (lk_iff.trans (Iff.trans ?_ le1_iff.symm))
  constructor
  · rintro ⟨_, e, he, h1, h2⟩
    exact ⟨e, he, by rw [← h1, h.id _ (hi e he).1], by rw [← h2, h.id _ (hi e he).2]⟩
  · rintro ⟨e, he, h1, h2⟩
    exact ⟨fun hc => h.ns e he (by omega), e, he, by rw [h.id _ (hi e he).1]; exact h1, by rw [h.id _ (hi e he).2]; exact h2⟩
theorem kl_id {N : Nat} {K : Nat → Nat} (h : ∀ v, v < N → K v = v) : kl K N = List.range N := by
  unfold kl
  rw [List.filter_eq_self]
  intro v hv
  exact decide_eq_true (h v (List.mem_range.1 hv)).symm
theorem Acy.ord {N : Nat} {es : List E} {K : Nat → Nat} (h : Acy N es K) (hi : Inn N es) : ord (Km.lk K es) (kl K N) = ord (le1 es) (List.range N) := by
  rw [kl_id h.id]
  exact ordf_congr _ _ (fun a _ b _ => h.lk hi a b)
/-- By the knots' order. -/
theorem acy_of_c {N : Nat} {es : List E} {K : Nat → Nat} (hc : ¬ (Km.ord (lk K es) (kl K N)).length < N) (hs : ∀ e ∈ es, e.1.toNat ≠ e.2.1.toNat) : Acy N es K := by
  refine ⟨fun v hv => ?_, hs⟩
  have h1 := ord_len (lk K es) (kl K N)
  have hl : (List.range N).length ≤ (kl K N).length := by rw [List.length_range]; omega
  have := mem_of_len (lt_nodup (kl_lt K N)) (fun x hx => List.mem_range.2 (kl_mem.1 hx).1) hl v (List.mem_range.2 hv)
  exact (kl_mem.1 this).2.symm
/-- By the document's order. -/
theorem Lds.acy_of_d {N : Nat} {es : List E} {R : Nat → Nat → Bool} (h : Lds N es R) (hi : Inn N es) (hc : ¬ (Km.ord (le1 es) (List.range N)).length < N) : Acy N es (kn R) := by
  obtain ⟨f1, f2⟩ := ord_fwd (le1 es) (List.range N)
  have hnd : (Km.ord (le1 es) (List.range N)).Nodup := ord_nodup (lt_nodup (range_lt N))
  have hall : ∀ v, v < N → v ∈ Km.ord (le1 es) (List.range N) := fun v hv => mem_of_len hnd ord_sub (by rw [List.length_range]; omega) v (List.mem_range.2 hv)
  have hs : ∀ e ∈ es, e.1.toNat ≠ e.2.1.toNat := fun e he hq => by
    have h1 := f2 _ (hall _ (hi e he).1)
    have h2 : le1 es e.1.toNat e.1.toNat = true := le1_iff.2 ⟨e, he, rfl, hq.symm⟩
    rw [h2] at h1; cases h1
  have hon : ∀ e ∈ es, ix (Km.ord (le1 es) (List.range N)) e.1.toNat < ix (Km.ord (le1 es) (List.range N)) e.2.1.toNat := fun e he =>
    ix_fwd f1 (hall _ (hi e he).1) (hall _ (hi e he).2) (hs e he) (le1_iff.2 ⟨e, he, rfl, rfl⟩)
  have hw : ∀ u v, v < N → R u v = true → u = v ∨ ix (Km.ord (le1 es) (List.range N)) u < ix (Km.ord (le1 es) (List.range N)) v := fun u v hv hr =>
    h.ind (P := fun x => u = x ∨ ix (Km.ord (le1 es) (List.range N)) u < ix (Km.ord (le1 es) (List.range N)) x) (fun e he hp => by
      have := hon e he
      rcases hp with hp | hp
      · right; rw [hp]; exact this
      · right; omega) hv hr (.inl rfl)
  refine ⟨fun v hv => ?_, hs⟩
  have hk := kn_lt R hv
  obtain ⟨t1, t2⟩ := h.to hv
  rcases hw _ _ hv t1 with e | l1
  · exact e
  · rcases hw _ _ hk t2 with e | l2
    · exact e.symm
    · omega
/-- What the program asks, by its order and its rounds, is what the document asks. -/
theorem Lds.dag {N : Nat} {es : List E} {R : Nat → Nat → Bool} (h : Lds N es R) (hi : Inn N es) :
    (¬ (Km.ord (lk (kn R) es) (kl (kn R) N)).length < N ∧ ∀ e ∈ es, e.1.toNat ≠ e.2.1.toNat) ↔ ¬ (Km.ord (le1 es) (List.range N)).length < N := by
  constructor
  · rintro ⟨h1, h2⟩
    rw [← (acy_of_c h1 h2).ord hi]; exact h1
  · intro hc
    have ha := h.acy_of_d hi hc
    exact ⟨by rw [ha.ord hi]; exact hc, ha.ns⟩
/-- No edge within a knot: no cycle. -/
theorem Lds.acy_of_single {N : Nat} {es : List E} {R : Nat → Nat → Bool} (h : Lds N es R) (hi : Inn N es) (hs : ∀ e ∈ es, kn R e.1.toNat ≠ kn R e.2.1.toNat) : Acy N es (kn R) := by
  refine ⟨fun v hv => ?_, fun e he hq => hs e he (by rw [hq])⟩
  obtain ⟨t1, t2⟩ := h.to hv
  refine Classical.byContradiction (fun hne => ?_)
  obtain ⟨j, hj⟩ := (h.iff _ _ hv).1 t1
  cases j with
  | zero => exact hne (show v = kn R v from hj).symm
  | succ j =>
    obtain ⟨e, he, _, h1, h2⟩ := hj
    obtain ⟨i1, i2⟩ := hi e he
    have r1 : R (kn R v) e.1.toNat = true := (h.iff _ _ i1).2 ⟨j, h2⟩
    have r2 : R v e.1.toNat = true := h.trans (kn_lt R hv) i1 t2 r1
    have r3 := h.edge hi he
    rw [h1] at r3
    refine hs e he ((h.kn_iff i1 i2).2 ?_)
    rw [h1]; unfold bth; rw [r3, r2]; rfl
theorem Lds.full {N : Nat} {es : List E} {R : Nat → Nat → Bool} (h : Lds N es R) (hi : Inn N es) (ha : Acy N es (kn R)) : (Km.ord (lk (kn R) es) (kl (kn R) N)).Perm (List.range N) := by
  have := h.perm hi
  rw [kl_id ha.id] at this ⊢
  exact this
/-- Where there is no cycle each edge leads on. -/
theorem Lds.lead {N : Nat} {es : List E} {R : Nat → Nat → Bool} (h : Lds N es R) (hi : Inn N es) (ha : Acy N es (kn R)) {e : E} (he : e ∈ es) : ix (Km.ord (lk (kn R) es) (kl (kn R) N)) e.1.toNat < ix (Km.ord (lk (kn R) es) (kl (kn R) N)) e.2.1.toNat := by
  have h1 := ha.id _ (hi e he).1
  have h2 := ha.id _ (hi e he).2
  have := h.on hi he (by rw [h1, h2]; exact ha.ns e he)
  rwa [h1, h2] at this
end Go.Proofs.Ytkklgnfimkojlaa.Km
