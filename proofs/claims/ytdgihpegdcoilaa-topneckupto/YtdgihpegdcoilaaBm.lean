/-
  Plain costs with edges below 0: walks, what is least, the document's spreading, the rounds of the program. No Go in sight.
-/
import Derived.Test.YtdgihpegdcoilaaDm
namespace Go.Proofs.Ytdgihpegdcoilaa.Bm
open Nm Wm Dm
set_option linter.unusedSimpArgs false

/-- A right net. -/
structure Rnt (N : Nat) (es : List E) : Prop where
  n1 : 1 ≤ N
  n64 : N ≤ 64
  len : es.length ≤ 600
  ok : ∀ e ∈ es, 0 ≤ e.1 ∧ e.1 < N ∧ 0 ≤ e.2.1 ∧ e.2.1 < N ∧ -10000 ≤ e.2.2 ∧ e.2.2 ≤ 10000
theorem bn_of {n : Int} {es : List E} (h : nck n es = 0) : Rnt n.toNat es ∧ ((n.toNat : Nat) : Int) = n := by
  have hg := nck_zero.1 h
  have hn : ((n.toNat : Nat) : Int) = n := by have := hg.n1; omega
  refine ⟨⟨by have := hg.n1; omega, by have := hg.n64; omega, hg.len, fun e he => ?_⟩, hn⟩
  rw [hn]; exact hg.ok e he
theorem Rnt.gn {N : Nat} {es : List E} (h : Rnt N es) : Gn (N : Int) es := ⟨by have := h.n1; omega, by have := h.n64; omega, h.len, h.ok⟩
theorem Rnt.nck {N : Nat} {es : List E} (h : Rnt N es) : nck (N : Int) es = 0 := nck_zero.2 h.gn
theorem Rnt.nat {N : Nat} {es : List E} (h : Rnt N es) {e : E} (he : e ∈ es) : e.1.toNat < N ∧ e.2.1.toNat < N ∧ -10000 ≤ e.2.2 ∧ e.2.2 ≤ 10000 := by
  have := h.ok e he; omega
/-- Edges lie between places. -/
def Inn (N : Nat) (es : List E) : Prop := ∀ e ∈ es, e.1.toNat < N ∧ e.2.1.toNat < N
theorem Rnt.inn {N : Nat} {es : List E} (h : Rnt N es) : Inn N es := fun _ he => ⟨(h.nat he).1, (h.nat he).2.1⟩

/-- A walk of k edges to v costs c, and never as much as far. -/
def Rc (es : List E) (d0 : Nat → Int) : Nat → Nat → Int → Prop
  | 0, v, c => d0 v = c ∧ c < far
  | k + 1, v, c => c < far ∧ ∃ e ∈ es, e.2.1.toNat = v ∧ Rc es d0 k e.1.toNat (c - e.2.2)
theorem Rc.lt {es : List E} {d0 : Nat → Int} {k v : Nat} {c : Int} (h : Rc es d0 k v c) : c < far := by
  cases k with
  | zero => exact h.2
  | succ k => exact h.1
theorem rc_next {es : List E} {d0 : Nat → Int} {k : Nat} {e : E} {c : Int} (he : e ∈ es) (h : Rc es d0 k e.1.toNat c) (hf : c + e.2.2 < far) : Rc es d0 (k + 1) e.2.1.toNat (c + e.2.2) :=
  ⟨hf, e, he, rfl, by rw [Int.add_sub_cancel]; exact h⟩

/-- What it costs least, from what it costs to begin with. -/
structure Ls (N : Nat) (es : List E) (d0 d : Nat → Int) : Prop where
  hi : ∀ v, v < N → d v ≤ far
  base : ∀ v, v < N → d v ≤ d0 v
  rel : ∀ e ∈ es, d e.1.toNat < far → d e.2.1.toNat ≤ d e.1.toNat + e.2.2
  real : ∀ v, v < N → d v < far → ∃ k, Rc es d0 k v (d v)
theorem Ls.least {N : Nat} {es : List E} {d0 d : Nat → Int} (hi : Inn N es) (h : Ls N es d0 d) (k : Nat) : ∀ v c, v < N → Rc es d0 k v c → d v ≤ c := by
  induction k with
  | zero => intro v c hv hr; have := h.base v hv; rw [hr.1] at this; exact this
  | succ k ih =>
    intro v c hv hr
    obtain ⟨_, e, he, h1, h2⟩ := hr
    have h3 := ih _ _ (hi e he).1 h2
    have h4 := h2.lt
    have h5 := h.rel e he (by omega)
    rw [h1] at h5
    omega
theorem Ls.le {N : Nat} {es : List E} {d0 d d' : Nat → Int} (hi : Inn N es) (h : Ls N es d0 d) (h' : Ls N es d0 d') {v : Nat} (hv : v < N) : d v ≤ d' v := by
  by_cases hf : d' v < far
  · obtain ⟨k, hk⟩ := h'.real v hv hf
    exact h.least hi k v _ hv hk
  · have := h.hi v hv; omega
theorem Ls.eq {N : Nat} {es : List E} {d0 d d' : Nat → Int} (hi : Inn N es) (h : Ls N es d0 d) (h' : Ls N es d0 d') {v : Nat} (hv : v < N) : d v = d' v := by
  have := h.le hi h' hv
  have := h'.le hi h hv
  omega
theorem Ls.congr {N : Nat} {es : List E} {d0 d d' : Nat → Int} (hi : Inn N es) (h : Ls N es d0 d) (he : ∀ v, v < N → d v = d' v) : Ls N es d0 d' := by
  refine ⟨fun v hv => by rw [← he v hv]; exact h.hi v hv, fun v hv => by rw [← he v hv]; exact h.base v hv, fun e hm => ?_, fun v hv hf => ?_⟩
  · obtain ⟨a, b⟩ := hi e hm
    rw [← he _ a, ← he _ b]; exact h.rel e hm
  · rw [← he v hv] at hf ⊢; exact h.real v hv hf

theorem least_of {P : Nat → Prop} (k : Nat) (h : P k) : ∃ m, m ≤ k ∧ P m ∧ ∀ j, j < m → ¬ P j := by
  induction k using Nat.strongRecOn with
  | ind k ih =>
    by_cases hh : ∃ j, j < k ∧ P j
    · obtain ⟨j, hj, hp⟩ := hh
      obtain ⟨m, h1, h2, h3⟩ := ih j hj hp
      exact ⟨m, by omega, h2, h3⟩
    · exact ⟨k, Nat.le_refl _, h, fun j hj hp => hh ⟨j, hj, hp⟩⟩
/-- Come to in fewer than k edges, for what it costs least. -/
structure Ear (es : List E) (d0 d : Nat → Int) (f : Nat → Nat → Bool) : Prop where
  iff : ∀ k u, f k u = true ↔ ∃ j, j < k ∧ Rc es d0 j u (d u)
theorem ear_is (es : List E) (d0 d : Nat → Int) : ∃ f, Ear es d0 d f :=
  ⟨fun k u => @decide (∃ j, j < k ∧ Rc es d0 j u (d u)) (Classical.propDecidable _), ⟨fun _ _ => @decide_eq_true_iff _ (Classical.propDecidable _)⟩⟩
theorem Ls.levels {N : Nat} {es : List E} {d0 d : Nat → Int} {f : Nat → Nat → Bool} (hf : Ear es d0 d f) (hi : Inn N es) (h : Ls N es d0 d) (k : Nat) : ∀ v, v < N → Rc es d0 k v (d v) → (∀ j, j < k → ¬ Rc es d0 j v (d v)) → k ≤ cntf N (f k) := by
  induction k with
  | zero => intros; omega
  | succ k ih =>
    intro v hv hr hmin
    obtain ⟨hfv, e, he, h1, h2⟩ := hr
    obtain ⟨a, b⟩ := hi e he
    have h3 := h.least hi k _ _ a h2
    have h4 := h2.lt
    have h5 := h.rel e he (by omega)
    rw [h1] at h5
    have heq : d v - e.2.2 = d e.1.toNat := by omega
    rw [heq] at h2
    have hm : ∀ j, j < k → ¬ Rc es d0 j e.1.toNat (d e.1.toNat) := fun j hj hr => by
      refine hmin (j + 1) (by omega) ⟨hfv, e, he, h1, ?_⟩
      rw [heq]; exact hr
    have h6 := ih _ a h2 hm
    have h7 := cntf_lt N (f k) (f (k + 1)) (fun i _ hp => by
      obtain ⟨j, hj, hr⟩ := (hf.iff _ _).1 hp
      exact (hf.iff _ _).2 ⟨j, by omega, hr⟩) e.1.toNat a ((hf.iff _ _).2 ⟨k, by omega, h2⟩) (by
      cases hb : f k e.1.toNat with
      | false => rfl
      | true => obtain ⟨j, hj, hr⟩ := (hf.iff _ _).1 hb; exact absurd hr (hm j hj))
    omega
/-- A walk that costs least has fewer edges than there are places. -/
theorem Ls.short {N : Nat} {es : List E} {d0 d : Nat → Int} (hi : Inn N es) (h : Ls N es d0 d) {v : Nat} (hv : v < N) (hfv : d v < far) : ∃ k, k + 1 ≤ N ∧ Rc es d0 k v (d v) := by
  obtain ⟨f, hf⟩ := ear_is es d0 d
  obtain ⟨k0, hk0⟩ := h.real v hv hfv
  obtain ⟨k, _, hk, hmin⟩ := least_of (P := fun k => Rc es d0 k v (d v)) k0 hk0
  refine ⟨k, ?_, hk⟩
  have h1 := h.levels hf hi k v hv hk hmin
  have h2 := cntf_lt N (f k) (fun _ => true) (fun _ _ _ => rfl) v hv rfl (by
    cases hb : f k v with
    | false => rfl
    | true => obtain ⟨j, hj, hr⟩ := (hf.iff _ _).1 hb; exact absurd hr (hmin j hj))
  have h3 := cntf_le N (fun _ => true)
  omega

theorem spr_step (es : List E) (d0 : Nat → Int) (k v : Nat) : spr es d0 (k + 1) v ≤ spr es d0 k v := nx_mono _ es v (Nat.zero_le _)
theorem spr_base (es : List E) (d0 : Nat → Int) (k v : Nat) : spr es d0 k v ≤ d0 v := by
  induction k with
  | zero => exact Int.le_refl _
  | succ k ih => exact Int.le_trans (spr_step es d0 k v) ih
theorem spr_real (es : List E) (d0 : Nat → Int) (k : Nat) : ∀ v, spr es d0 k v < far → ∃ j, j ≤ k ∧ Rc es d0 j v (spr es d0 k v) := by
  induction k with
  | zero => intro v hf; exact ⟨0, Nat.le_refl _, rfl, hf⟩
  | succ k ih =>
    intro v hf
    rcases nx_from (spr es d0 k) es es.length v (Nat.le_refl _) with h | ⟨e, he, h1, h2, h3⟩
    · have h' : spr es d0 (k + 1) v = spr es d0 k v := h
      rw [h'] at hf ⊢
      obtain ⟨j, hj, hr⟩ := ih v hf
      exact ⟨j, by omega, hr⟩
    · have h' : spr es d0 (k + 1) v = spr es d0 k e.1.toNat + e.2.2 := h3
      rw [h'] at hf ⊢
      obtain ⟨j, hj, hr⟩ := ih _ h2
      refine ⟨j + 1, by omega, ?_⟩
      rw [← h1]; exact rc_next he hr hf
theorem spr_least (es : List E) (d0 : Nat → Int) (k : Nat) : ∀ j v c, j ≤ k → Rc es d0 j v c → spr es d0 k v ≤ c := by
  induction k with
  | zero =>
    intro j v c hj hr
    obtain rfl : j = 0 := by omega
    exact Int.le_of_eq hr.1
  | succ k ih =>
    intro j v c hj hr
    cases j with
    | zero => exact Int.le_trans (spr_step es d0 k v) (ih 0 v c (by omega) hr)
    | succ j =>
      obtain ⟨_, e, he, h1, h2⟩ := hr
      have h3 := ih j _ _ (by omega) h2
      have h4 := h2.lt
      have h5 := nx_rel (d := spr es d0 k) he (by omega)
      rw [h1] at h5
      show nx (spr es d0 k) es es.length v ≤ c
      omega
theorem ls_of_fix {N : Nat} {es : List E} {d0 : Nat → Int} (hi : Inn N es) (h0 : ∀ v, v < N → d0 v ≤ far) (m : Nat) (h : ∀ v, v < N → spr es d0 (m + 1) v = spr es d0 m v) : Ls N es d0 (spr es d0 m) := by
  refine ⟨fun v hv => Int.le_trans (spr_base es d0 m v) (h0 v hv), fun v _ => spr_base es d0 m v, fun e he hf => ?_, fun v _ hf => ?_⟩
  · rw [← h _ (hi e he).2]; exact nx_rel he hf
  · obtain ⟨j, _, hr⟩ := spr_real es d0 m v hf
    exact ⟨j, hr⟩
theorem Ls.spr {N : Nat} {es : List E} {d0 d : Nat → Int} (hi : Inn N es) (h0 : ∀ v, v < N → d0 v ≤ far) (h : Ls N es d0 d) {k : Nat} (hk : N ≤ k + 1) : ∀ v, v < N → Dm.spr es d0 k v = d v := by
  intro v hv
  have h1 : d v ≤ Dm.spr es d0 k v := by
    by_cases hf : Dm.spr es d0 k v < far
    · obtain ⟨j, _, hr⟩ := spr_real es d0 k v hf
      exact h.least hi j v _ hv hr
    · have := h.hi v hv; omega
  have h2 : Dm.spr es d0 k v ≤ d v := by
    by_cases hf : d v < far
    · obtain ⟨j, hj, hr⟩ := h.short hi hv hf
      exact spr_least es d0 k j v _ (by omega) hr
    · have := spr_base es d0 k v
      have := h0 v hv
      omega
  omega
/-- There is a least just if one round more turns nothing. -/
theorem ls_iff {N : Nat} {es : List E} {d0 : Nat → Int} (hi : Inn N es) (hn : 1 ≤ N) (h0 : ∀ v, v < N → d0 v ≤ far) : (∃ d, Ls N es d0 d) ↔ ∀ v, v < N → Dm.spr es d0 N v = Dm.spr es d0 (N - 1) v := by
  constructor
  · rintro ⟨d, h⟩ v hv
    rw [h.spr hi h0 (by omega) v hv, h.spr hi h0 (by omega) v hv]
  · intro h
    exact ⟨_, ls_of_fix hi h0 (N - 1) (fun v hv => by rw [show N - 1 + 1 = N by omega]; exact h v hv)⟩
theorem nx_low {N : Nat} {es : List E} (hb : Rnt N es) {d : Nat → Int} {B : Int} (h : ∀ v, v < N → -B ≤ d v ∧ d v ≤ far) (k : Nat) (hk : k ≤ es.length) : ∀ v, v < N → -(B + 10000) ≤ nx d es k v ∧ nx d es k v ≤ far := by
  intro v hv
  have h1 := nx_mono d es v (Nat.zero_le k)
  have h2 := h v hv
  have h3 : nx d es 0 v = d v := rfl
  rcases nx_from d es k v hk with h4 | ⟨e, he, _, _, h4⟩
  · omega
  · obtain ⟨a, _, c, _⟩ := hb.nat he
    have := h _ a
    omega
theorem spr_low {N : Nat} {es : List E} (hb : Rnt N es) {d : Nat → Int} {B : Int} (h : ∀ v, v < N → -B ≤ d v ∧ d v ≤ far) (k : Nat) : ∀ v, v < N → -(B + 10000 * k) ≤ Dm.spr es d k v ∧ Dm.spr es d k v ≤ far := by
  induction k with
  | zero => intro v hv; have := h v hv; simp only [Dm.spr]; omega
  | succ k ih =>
    intro v hv
    have := nx_low hb ih es.length (Nat.le_refl _) v hv
    show -(B + 10000 * ((k + 1 : Nat) : Int)) ≤ nx (Dm.spr es d k) es es.length v ∧ nx (Dm.spr es d k) es es.length v ≤ far
    omega
theorem rc_low {N : Nat} {es : List E} (hb : Rnt N es) {d0 : Nat → Int} (h0 : ∀ v, v < N → 0 ≤ d0 v) (k : Nat) : ∀ v c, v < N → Rc es d0 k v c → -(10000 * (k : Int)) ≤ c := by
  induction k with
  | zero => intro v c hv hr; have := h0 v hv; rw [hr.1] at this; omega
  | succ k ih =>
    intro v c hv hr
    obtain ⟨_, e, he, _, h2⟩ := hr
    obtain ⟨a, _, c1, c2⟩ := hb.nat he
    have := ih _ _ a h2
    omega
theorem Ls.low {N : Nat} {es : List E} {d0 d : Nat → Int} (hb : Rnt N es) (h0 : ∀ v, v < N → 0 ≤ d0 v) (h : Ls N es d0 d) : ∀ v, v < N → -640000 ≤ d v := by
  intro v hv
  by_cases hf : d v < far
  · obtain ⟨k, hk, hr⟩ := h.short hb.inn hv hf
    have := rc_low hb h0 k v _ hv hr
    have := hb.n64
    omega
  · have : (0 : Int) < far := by decide
    omega

/-- What is known in the program's rounds: costs, who stands ahead, who sank last, and when each sank last. -/
structure St where
  d : Nat → Int
  a : Nat → Int
  s : Int
  t : Nat → Nat
def tup (t : Nat → Nat) (y x : Nat) : Nat → Nat := fun i => if i = y then x else t i
theorem tup_same (t : Nat → Nat) (y x : Nat) : tup t y x y = x := if_pos rfl
theorem tup_other (t : Nat → Nat) {y i : Nat} (x : Nat) (h : i ≠ y) : tup t y x i = t i := if_neg h
/-- An edge leads to a place for less. -/
abbrev Sinks (d : Nat → Int) (e : E) : Prop := d e.1.toNat < far ∧ d e.1.toNat + e.2.2 < d e.2.1.toNat
def rstep (now : Nat) (e : E) (q : St) : St :=
  if Sinks q.d e then ⟨upd q.d e.2.1.toNat (q.d e.1.toNat + e.2.2), upd q.a e.2.1.toNat e.1, e.2.1, tup q.t e.2.1.toNat now⟩ else q
theorem rstep_yes (now : Nat) {e : E} {q : St} (h : Sinks q.d e) : rstep now e q = ⟨upd q.d e.2.1.toNat (q.d e.1.toNat + e.2.2), upd q.a e.2.1.toNat e.1, e.2.1, tup q.t e.2.1.toNat now⟩ := if_pos h
theorem rstep_no (now : Nat) {e : E} {q : St} (h : ¬ Sinks q.d e) : rstep now e q = q := if_neg h
/-- A round: the first k edges are looked at. -/
def rnd (r : Nat) (es : List E) (q : St) : Nat → St
  | 0 => ⟨q.d, q.a, -1, q.t⟩
  | k + 1 => rstep (r * 1000 + k) (at3 es k) (rnd r es q k)
/-- So many rounds. -/
def rns (es : List E) (d0 : Nat → Int) : Nat → St
  | 0 => ⟨d0, fun _ => -1, -1, fun _ => 0⟩
  | r + 1 => rnd (r + 1) es (rns es d0 r) es.length

theorem rnd_still {r : Nat} {es : List E} {q : St} (h : ∀ e ∈ es, ¬ Sinks q.d e) (k : Nat) (hk : k ≤ es.length) : rnd r es q k = ⟨q.d, q.a, -1, q.t⟩ := by
  induction k with
  | zero => rfl
  | succ k ih =>
    rw [rnd, ih (by omega), rstep_no]
    exact h _ (mem_at (by omega))
theorem rnd_none {r : Nat} {es : List E} {q : St} (h0 : ∀ e ∈ es, 0 ≤ e.2.1) (k : Nat) (hk : k ≤ es.length) (hs : (rnd r es q k).s = -1) : rnd r es q k = ⟨q.d, q.a, -1, q.t⟩ ∧ ∀ j, j < k → ¬ Sinks q.d (at3 es j) := by
  induction k with
  | zero => exact ⟨rfl, fun j hj => by omega⟩
  | succ k ih =>
    have hm : at3 es k ∈ es := mem_at (by omega)
    by_cases h : Sinks (rnd r es q k).d (at3 es k)
    · rw [rnd, rstep_yes _ h] at hs
      have := h0 _ hm
      have hs' : (at3 es k).2.1 = -1 := hs
      omega
    · rw [rnd, rstep_no _ h] at hs ⊢
      obtain ⟨h1, h2⟩ := ih (by omega) hs
      rw [h1] at h ⊢
      refine ⟨rfl, fun j hj => ?_⟩
      rcases (show j < k ∨ j = k by omega) with hj | rfl
      · exact h2 j hj
      · exact h
theorem still_of {es : List E} {d : Nat → Int} (h : ∀ j, j < es.length → ¬ Sinks d (at3 es j)) : ∀ e ∈ es, ¬ Sinks d e := by
  intro e he
  obtain ⟨j, hj, rfl⟩ := List.mem_iff_getElem.1 he
  have e3 : at3 es j = es[j] := by unfold at3; simp [hj]
  rw [← e3]; exact h j hj
/-- Once nothing sinks nothing turns any longer. -/
theorem rns_stop {N : Nat} {es : List E} (hb : Rnt N es) {d0 : Nat → Int} {r : Nat} (hs : (rns es d0 (r + 1)).s = -1) : (∀ e ∈ es, ¬ Sinks (rns es d0 (r + 1)).d e) ∧ ∀ m, rns es d0 (r + 1 + m) = rns es d0 (r + 1) := by
  obtain ⟨h1, h2⟩ := rnd_none (fun e he => (hb.ok e he).2.2.1) es.length (Nat.le_refl _) hs
  have h1' : rns es d0 (r + 1) = ⟨(rns es d0 r).d, (rns es d0 r).a, -1, (rns es d0 r).t⟩ := h1
  have h3 : ∀ e ∈ es, ¬ Sinks (rns es d0 (r + 1)).d e := by rw [h1']; exact still_of h2
  refine ⟨h3, fun m => ?_⟩
  induction m with
  | zero => rfl
  | succ m ih =>
    have : rns es d0 (r + 1 + (m + 1)) = rnd (r + 1 + m + 1) es (rns es d0 (r + 1 + m)) es.length := rfl
    rw [this, ih, rnd_still h3 es.length (Nat.le_refl _)]
    rw [h1']
/-- Costs only sink. -/
theorem rnd_down (r : Nat) (es : List E) (q : St) (k v : Nat) : (rnd r es q k).d v ≤ q.d v := by
  induction k with
  | zero => exact Int.le_refl _
  | succ k ih =>
    rw [rnd]
    by_cases h : Sinks (rnd r es q k).d (at3 es k)
    · rw [rstep_yes _ h]
      by_cases e : v = (at3 es k).2.1.toNat
      · subst e; simp only [upd_same]; have := h.2; omega
      · simp only [upd_other _ _ e]; exact ih
    · rw [rstep_no _ h]; exact ih
theorem rns_down (es : List E) (d0 : Nat → Int) (r v : Nat) : (rns es d0 r).d v ≤ d0 v := by
  induction r with
  | zero => exact Int.le_refl _
  | succ r ih => exact Int.le_trans (rnd_down (r + 1) es _ es.length v) ih
theorem rnd_low {N : Nat} {es : List E} (hb : Rnt N es) {r : Nat} {q : St} {B : Int} (h : ∀ v, v < N → -B ≤ q.d v) (k : Nat) (hk : k ≤ es.length) : ∀ v, v < N → -(B + 10000 * k) ≤ (rnd r es q k).d v := by
  induction k with
  | zero => intro v hv; have := h v hv; simp only [rnd]; omega
  | succ k ih =>
    intro v hv
    have ih := ih (by omega)
    have i1 := ih v hv
    obtain ⟨a, b, c1, c2⟩ := hb.nat (mem_at (show k < es.length by omega))
    have i2 := ih _ a
    rw [rnd]
    by_cases hs : Sinks (rnd r es q k).d (at3 es k)
    · rw [rstep_yes _ hs]
      by_cases e : v = (at3 es k).2.1.toNat
      · subst e; simp only [upd_same]; omega
      · simp only [upd_other _ _ e]; omega
    · rw [rstep_no _ hs]; omega
theorem rns_low {N : Nat} {es : List E} (hb : Rnt N es) {d0 : Nat → Int} (h0 : ∀ v, v < N → 0 ≤ d0 v) (r : Nat) : ∀ v, v < N → -(6000000 * (r : Int)) ≤ (rns es d0 r).d v := by
  induction r with
  | zero => intro v hv; have := h0 v hv; simp only [rns]; omega
  | succ r ih =>
    intro v hv
    have := rnd_low hb (r := r + 1) (q := rns es d0 r) ih es.length (Nat.le_refl _) v hv
    have hl := hb.len
    show -(6000000 * ((r + 1 : Nat) : Int)) ≤ (rnd (r + 1) es (rns es d0 r) es.length).d v
    omega
/-- A cost is that of some walk. -/
def Rl (N : Nat) (es : List E) (d0 d : Nat → Int) : Prop := ∀ v, v < N → d v < far → ∃ k, Rc es d0 k v (d v)
theorem rnd_real {N : Nat} {es : List E} (hi : Inn N es) {d0 : Nat → Int} {r : Nat} {q : St} (h : Rl N es d0 q.d) (k : Nat) (hk : k ≤ es.length) : Rl N es d0 (rnd r es q k).d := by
  induction k with
  | zero => exact h
  | succ k ih =>
    have ih := ih (by omega)
    have hm : at3 es k ∈ es := mem_at (by omega)
    obtain ⟨a, b⟩ := hi _ hm
    rw [rnd]
    by_cases hs : Sinks (rnd r es q k).d (at3 es k)
    · rw [rstep_yes _ hs]
      intro v hv hvf
      by_cases e : v = (at3 es k).2.1.toNat
      · subst e
        simp only [upd_same] at hvf ⊢
        obtain ⟨j, hj⟩ := ih _ a hs.1
        exact ⟨j + 1, rc_next hm hj hvf⟩
      · simp only [upd_other _ _ e] at hvf ⊢
        exact ih v hv hvf
    · rw [rstep_no _ hs]; exact ih
theorem rns_real {N : Nat} {es : List E} (hi : Inn N es) (d0 : Nat → Int) (r : Nat) : Rl N es d0 (rns es d0 r).d := by
  induction r with
  | zero => exact fun v _ hf => ⟨0, rfl, hf⟩
  | succ r ih => exact rnd_real hi ih es.length (Nat.le_refl _)
theorem rnd_spr {N : Nat} {es : List E} (hi : Inn N es) {r : Nat} {q : St} {S : Nat → Int} (h : ∀ v, v < N → q.d v ≤ S v) (k : Nat) (hk : k ≤ es.length) : ∀ v, v < N → (rnd r es q k).d v ≤ nx S es k v := by
  induction k with
  | zero => exact h
  | succ k ih =>
    intro v hv
    have ih := ih (by omega)
    have hm : at3 es k ∈ es := mem_at (by omega)
    obtain ⟨a, b⟩ := hi _ hm
    have i1 := ih v hv
    have i2 := ih _ b
    have i3 := Int.le_trans (rnd_down r es q k (at3 es k).1.toNat) (h _ a)
    by_cases hS : S (at3 es k).1.toNat < far
    · rw [nx_yes hS, rnd]
      by_cases hs : Sinks (rnd r es q k).d (at3 es k)
      · rw [rstep_yes _ hs]
        by_cases e : v = (at3 es k).2.1.toNat
        · subst e; simp only [upd_same]; have := hs.2; omega
        · simp only [upd_other _ _ e]; omega
      · rw [rstep_no _ hs]
        by_cases e : v = (at3 es k).2.1.toNat
        · subst e
          simp only [upd_same]
          have : ¬ (rnd r es q k).d (at3 es k).1.toNat + (at3 es k).2.2 < (rnd r es q k).d (at3 es k).2.1.toNat := fun hh => hs ⟨by omega, hh⟩
          omega
        · simp only [upd_other _ _ e]; omega
    · rw [nx_no hS]
      refine Int.le_trans ?_ i1
      rw [rnd]
      by_cases hs : Sinks (rnd r es q k).d (at3 es k)
      · rw [rstep_yes _ hs]
        by_cases e : v = (at3 es k).2.1.toNat
        · subst e; simp only [upd_same]; have := hs.2; omega
        · simp only [upd_other _ _ e]; exact Int.le_refl _
      · rw [rstep_no _ hs]; exact Int.le_refl _
theorem rns_spr {N : Nat} {es : List E} (hi : Inn N es) (d0 : Nat → Int) (r : Nat) : ∀ v, v < N → (rns es d0 r).d v ≤ spr es d0 r v := by
  induction r with
  | zero => intro v _; exact Int.le_refl _
  | succ r ih => exact rnd_spr hi ih es.length (Nat.le_refl _)
/-- Where nothing sinks any longer, it is the least. -/
theorem rns_yes {N : Nat} {es : List E} (hb : Rnt N es) {d0 : Nat → Int} (h0 : ∀ v, v < N → d0 v ≤ far) (hs : (rns es d0 N).s = -1) : Ls N es d0 (rns es d0 N).d := by
  have hn := hb.n1
  obtain ⟨r, rfl⟩ : ∃ r, N = r + 1 := ⟨N - 1, by omega⟩
  obtain ⟨h1, _⟩ := rns_stop hb hs
  refine ⟨fun v hv => Int.le_trans (rns_down es d0 _ v) (h0 v hv), fun v _ => rns_down es d0 _ v, fun e he hf => ?_, rns_real hb.inn d0 _⟩
  have := h1 e he
  omega
/-- Where there is a least, nothing sinks in the end. -/
theorem rns_no {N : Nat} {es : List E} (hb : Rnt N es) {d0 D : Nat → Int} (h0 : ∀ v, v < N → d0 v ≤ far) (h : Ls N es d0 D) : (rns es d0 N).s = -1 := by
  have hn := hb.n1
  obtain ⟨r, hr⟩ : ∃ r, N = r + 1 := ⟨N - 1, by omega⟩
  have heq : ∀ v, v < N → (rns es d0 r).d v = D v := by
    intro v hv
    have h1 := rns_spr hb.inn d0 r v hv
    rw [h.spr hb.inn h0 (by omega) v hv] at h1
    have h2 : D v ≤ (rns es d0 r).d v := by
      by_cases hf : (rns es d0 r).d v < far
      · obtain ⟨k, hk⟩ := rns_real hb.inn d0 r v hv hf
        exact h.least hb.inn k v _ hv hk
      · have := h.hi v hv; omega
    omega
  have hst : ∀ e ∈ es, ¬ Sinks (rns es d0 r).d e := by
    intro e he hs
    obtain ⟨a, b, _⟩ := hb.nat he
    unfold Sinks at hs
    rw [heq _ a, heq _ b] at hs
    have := h.rel e he hs.1
    omega
  have : rns es d0 N = rnd (r + 1) es (rns es d0 r) es.length := by rw [hr]; rfl
  rw [this, rnd_still hst es.length (Nat.le_refl _)]
end Go.Proofs.Ytdgihpegdcoilaa.Bm
