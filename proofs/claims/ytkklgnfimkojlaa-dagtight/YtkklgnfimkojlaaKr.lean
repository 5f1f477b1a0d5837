/-
  Plain: the most that a walk costs that ends there, along the order. No Go in sight.
-/
import Derived.Test.YtkklgnfimkojlaaKq
namespace Go.Proofs.Ytkklgnfimkojlaa.Km
open Nm Wm Dm Bm Fm
set_option linter.unusedSimpArgs false
set_option linter.unusedVariables false

/-- One place is looked from, over the first i edges. -/
def mi (es : List E) (v : Nat) (M : Nat → Int) : Nat → Nat → Int
  | 0 => M
  | i + 1 => if (at3 es i).1.toNat = v then upd (mi es v M i) (at3 es i).2.1.toNat (max (mi es v M i (at3 es i).2.1.toNat) (mi es v M i v + (at3 es i).2.2)) else mi es v M i
/-- The first k of the order are looked from. -/
def mo (es : List E) (L : List Nat) : Nat → Nat → Int
  | 0 => fun _ => 0
  | k + 1 => mi es (L.getD k 0) (mo es L k) es.length
theorem mi_yes {es : List E} {v : Nat} {M : Nat → Int} {i x y : Nat} {c : Int} (he : at3 es i = ((x : Int), (y : Int), c)) (h : x = v) : mi es v M (i + 1) = upd (mi es v M i) y (max (mi es v M i y) (mi es v M i v + c)) := by
  rw [mi, he]
  simp [h]
theorem mi_no {es : List E} {v : Nat} {M : Nat → Int} {i x y : Nat} {c : Int} (he : at3 es i = ((x : Int), (y : Int), c)) (h : ¬ x = v) : mi es v M (i + 1) = mi es v M i := by
  rw [mi, he]
  simp [h]
structure Mi (es : List E) (v : Nat) (M : Nat → Int) (i : Nat) : Prop where
  self : mi es v M i v = M v
  ge : ∀ t, M t ≤ mi es v M i t
  rel : ∀ j, j < i → (at3 es j).1.toNat = v → M v + (at3 es j).2.2 ≤ mi es v M i (at3 es j).2.1.toNat
  frm : ∀ t, mi es v M i t = M t ∨ ∃ e ∈ es, e.1.toNat = v ∧ e.2.1.toNat = t ∧ mi es v M i t = M v + e.2.2
theorem mi_is {es : List E} {v : Nat} (hs : ∀ e ∈ es, e.1.toNat = v → e.2.1.toNat ≠ v) (M : Nat → Int) (i : Nat) (hi : i ≤ es.length) : Mi es v M i := by
  induction i with
  | zero => exact ⟨rfl, fun t => Int.le_refl _, fun j hj => absurd hj (Nat.not_lt_zero j), fun t => .inl rfl⟩
  | succ i ih =>
    have ih := ih (by omega)
    have hm := mem_at (es := es) (k := i) (by omega)
    by_cases h : (at3 es i).1.toNat = v
    · have hne := hs _ hm h
      have e : mi es v M (i + 1) = upd (mi es v M i) (at3 es i).2.1.toNat (max (mi es v M i (at3 es i).2.1.toNat) (mi es v M i v + (at3 es i).2.2)) := by rw [mi, if_pos h]
      rw [ih.self] at e
      refine ⟨?_, fun t => ?_, fun j hj hv => ?_, fun t => ?_⟩
      · rw [e, upd_other _ _ (fun q => hne q.symm)]; exact ih.self
      · rw [e]; by_cases q : t = (at3 es i).2.1.toNat
        · rw [q, upd_same]; have := ih.ge (at3 es i).2.1.toNat; omega
        · rw [upd_other _ _ q]; exact ih.ge t
      · rw [e]
        rcases (show j < i ∨ j = i by omega) with hj | rfl
        · have h1 := ih.rel j hj hv
          by_cases q : (at3 es j).2.1.toNat = (at3 es i).2.1.toNat
          · rw [q] at h1 ⊢; rw [upd_same]; omega
          · rw [upd_other _ _ q]; exact h1
        · rw [upd_same]; omega
      · rw [e]; by_cases q : t = (at3 es i).2.1.toNat
        · subst q
          rw [upd_same]
          by_cases hc : M v + (at3 es i).2.2 ≤ mi es v M i (at3 es i).2.1.toNat
          · rw [Int.max_eq_left hc]; exact ih.frm _
          · right; exact ⟨at3 es i, hm, h, rfl, by omega⟩
        · rw [upd_other _ _ q]; exact ih.frm t
    · have e : mi es v M (i + 1) = mi es v M i := by rw [mi, if_neg h]
      refine ⟨by rw [e]; exact ih.self, fun t => by rw [e]; exact ih.ge t, fun j hj hv => ?_, fun t => by rw [e]; exact ih.frm t⟩
      rw [e]
      rcases (show j < i ∨ j = i by omega) with hj | rfl
      · exact ih.rel j hj hv
      · exact absurd hv h
/-- The order leads on and has each place. -/
structure Fwd (N : Nat) (es : List E) (L : List Nat) : Prop where
  nd : L.Nodup
  all : ∀ v, v < N → v ∈ L
  in_ : ∀ v ∈ L, v < N
  on : ∀ e ∈ es, ix L e.1.toNat < ix L e.2.1.toNat
theorem Lds.fwd {N : Nat} {es : List E} {R : Nat → Nat → Bool} (h : Lds N es R) (hi : Inn N es) (ha : Acy N es (kn R)) : Fwd N es (Km.ord (lk (kn R) es) (kl (kn R) N)) := by
  have hp := h.full hi ha
  exact ⟨ord_nodup (lt_nodup (kl_lt _ _)), fun v hv => hp.mem_iff.2 (List.mem_range.2 hv), fun v hv => List.mem_range.1 (hp.mem_iff.1 hv), fun e he => h.lead hi ha he⟩
structure Mo (N : Nat) (es : List E) (L : List Nat) (k : Nat) : Prop where
  lo : ∀ t, 0 ≤ mo es L k t
  hi : ∀ t, mo es L k t ≤ 10000 * k
  rel : ∀ e ∈ es, ix L e.1.toNat < k → mo es L k e.1.toNat + e.2.2 ≤ mo es L k e.2.1.toNat
  frm : ∀ t, mo es L k t = 0 ∨ ∃ e ∈ es, e.2.1.toNat = t ∧ ix L e.1.toNat < k ∧ mo es L k t = mo es L k e.1.toNat + e.2.2
theorem mo_is {N : Nat} {es : List E} {L : List Nat} (hf : Fwd N es L) (hi : Inn N es) (hc : ∀ e ∈ es, e.2.2 ≤ 10000) (k : Nat) (hk : k ≤ L.length) : Mo N es L k := by
  induction k with
  | zero => exact ⟨fun t => Int.le_refl _, fun t => by simp [mo], fun e _ h => absurd h (Nat.not_lt_zero _), fun t => .inl rfl⟩
  | succ k ih =>
    have ih := ih (by omega)
    have hlt : k < L.length := by omega
    have hv : L.getD k 0 = L[k] := by simp [List.getD_eq_getElem?_getD, hlt]
    have hix := ix_at hf.nd hlt
    generalize L[k] = v at hv hix
    have hs : ∀ e ∈ es, e.1.toNat = v → e.2.1.toNat ≠ v := fun e he h1 h2 => by
      have := hf.on e he; rw [h1, h2] at this; omega
    have hm := mi_is hs (mo es L k) es.length (Nat.le_refl _)
    have e1 : mo es L (k + 1) = mi es v (mo es L k) es.length := by rw [mo, hv]
    -- what is no child of v stays
    have same : ∀ t, ix L t ≤ k → mo es L (k + 1) t = mo es L k t := fun t ht => by
      rw [e1]
      rcases hm.frm t with h | ⟨e, he, h1, h2, _⟩
      · exact h
      · have := hf.on e he; rw [h1, h2] at this; omega
    refine ⟨fun t => ?_, fun t => ?_, fun e he hl => ?_, fun t => ?_⟩
    · rw [e1]; have h1 := hm.ge t; have h2 := ih.lo t; omega
    · rw [e1]
      rcases hm.frm t with h | ⟨e, he, h1, h2, h3⟩
      · have := ih.hi t; omega
      · have h4 := ih.hi v; have h5 := hc e he; omega
    · rw [same _ (by omega)]
      rcases (show ix L e.1.toNat < k ∨ ix L e.1.toNat = k by omega) with h | h
      · have h1 := ih.rel e he h
        have h2 := hm.ge e.2.1.toNat
        rw [e1]; omega
      · have hev : e.1.toNat = v := by
          have a1 : e.1.toNat ∈ L := hf.all _ (hi e he).1
          have a2 : v ∈ L := by rw [← hv, List.getD_eq_getElem?_getD, List.getElem?_eq_getElem hlt]; exact List.getElem_mem hlt
          exact ix_inj a1 a2 (by omega)
        obtain ⟨j, hj, rfl⟩ := List.mem_iff_getElem.1 he
        have e3 : at3 es j = es[j] := by unfold at3; simp [hj]
        have h1 := hm.rel j hj (by rw [e3]; exact hev)
        rw [e3] at h1
        rw [e1, hev]; exact h1
    · rw [e1]
      rcases hm.frm t with h | ⟨e, he, h1, h2, h3⟩
      · rw [h]
        rcases ih.frm t with h0 | ⟨e, he, h1, h2, h3⟩
        · exact .inl h0
        · right
          refine ⟨e, he, h1, by omega, ?_⟩
          have := same e.1.toNat (by omega)
          rw [e1] at this
          rw [this]; exact h3
      · right
        refine ⟨e, he, h2, by rw [h1]; omega, ?_⟩
        have := same v (by omega)
        rw [e1] at this
        rw [h1, this]; exact h3
/-- Costs turned round. -/
def neg (es : List E) : List E := es.map (fun e => (e.1, e.2.1, -e.2.2))
theorem neg_length (es : List E) : (neg es).length = es.length := by simp [neg]
theorem neg_mem {es : List E} {x : E} : x ∈ neg es ↔ ∃ e ∈ es, x = (e.1, e.2.1, -e.2.2) := by
  unfold neg; rw [List.mem_map]
  constructor
  · rintro ⟨e, h1, h2⟩; exact ⟨e, h1, h2.symm⟩
  · rintro ⟨e, h1, h2⟩; exact ⟨e, h1, h2.symm⟩
theorem neg_rnt {N : Nat} {es : List E} (h : Rnt N es) : Rnt N (neg es) := by
  refine ⟨h.n1, h.n64, by rw [neg_length]; exact h.len, fun x hx => ?_⟩
  obtain ⟨e, he, rfl⟩ := neg_mem.1 hx
  have := h.ok e he
  dsimp only
  omega
/-- The most along the order is the least with costs turned round. -/
theorem Fwd.long {N : Nat} {es : List E} {L : List Nat} (hf : Fwd N es L) (hb : Rnt N es) : ∀ v, v < N → mo es L L.length v = -(spr (neg es) (fun _ => 0) (N - 1) v) := by
  have hm := mo_is hf hb.inn (fun e he => (hb.nat he).2.2.2) L.length (Nat.le_refl _)
  have hlt : ∀ e ∈ es, ix L e.1.toNat < L.length := fun e he => ix_lt (hf.all _ (hb.inn e he).1)
  have hll : L.length ≤ 64 := by
    have := sub_len L (List.range N) hf.nd (fun x hx => List.mem_range.2 (hf.in_ x hx))
    rw [List.length_range] at this
    have := hb.n64; omega
  have hl : Ls N (neg es) (fun _ => 0) (fun v => -(mo es L L.length v)) := by
    refine ⟨fun v _ => ?_, fun v _ => ?_, fun x hx hq => ?_, fun v hv _ => ?_⟩
    · have := hm.lo v; show -(mo es L L.length v) ≤ 1099511627776; omega
    · have := hm.lo v; omega
    · obtain ⟨e, he, rfl⟩ := neg_mem.1 hx
      have := hm.rel e he (hlt e he)
      dsimp only; omega
    · have key : ∀ n v, v < N → ix L v = n → ∃ k, Rc (neg es) (fun _ => 0) k v (-(mo es L L.length v)) := by
        intro n
        induction n using Nat.strongRecOn with
        | ind n ih =>
          intro v hv hx
          rcases hm.frm v with h0 | ⟨e, he, h1, h2, h3⟩
          · exact ⟨0, by rw [h0]; rfl, by rw [h0]; decide⟩
          · have h4 := hf.on e he
            rw [h1, hx] at h4
            obtain ⟨k, hk⟩ := ih (ix L e.1.toNat) h4 e.1.toNat (hb.inn e he).1 rfl
            have h5 := hm.lo v
            refine ⟨k + 1, by show -(mo es L L.length v) < 1099511627776; omega, (e.1, e.2.1, -e.2.2), neg_mem.2 ⟨e, he, rfl⟩, h1, ?_⟩
            have h6 : -(mo es L L.length v) - -e.2.2 = -(mo es L L.length e.1.toNat) := by omega
            dsimp only
            rw [h6]; exact hk
      exact key _ v hv rfl
  intro v hv
  have := hl.spr (neg_rnt hb).inn (fun _ _ => by decide) (k := N - 1) (by have := hb.n1; omega) v hv
  rw [this]; omega
end Go.Proofs.Ytkklgnfimkojlaa.Km
