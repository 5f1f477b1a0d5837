/-
  Plain costs by what lies between: they are the least ones, or there is a bad cycle. No Go in sight.
-/
import Derived.Test.YtdgihpegdcoilaaFm
namespace Go.Proofs.Ytdgihpegdcoilaa.Fl
open Nm Wm Dm Bm Fm
set_option linter.unusedSimpArgs false
set_option linter.unusedVariables false

/-- Both together: none, where one is none; never below what there is. -/
def sm (a b : Int) : Int := if a = far ∨ b = far then far else max (a + b) (-far)
theorem sm_far {a b : Int} (h : a = far ∨ b = far) : sm a b = far := if_pos h
theorem sm_sum {a b : Int} (h : ¬ (a = far ∨ b = far)) : sm a b = max (a + b) (-far) := if_neg h
theorem sm_comm (a b : Int) : sm a b = sm b a := by
  by_cases h : a = far ∨ b = far
  · rw [sm_far h, sm_far h.symm]
  · rw [sm_sum h, sm_sum (fun e => h e.symm), Int.add_comm]
/-- What costs are, at all. -/
def Rg (x : Int) : Prop := -far ≤ x ∧ x ≤ far
theorem rg_min (a b : Int) (ha : Rg a) (hb : Rg b) : Rg (min a b) := by unfold Rg at *; omega
theorem rg_max (a b : Int) (ha : Rg a) (hb : Rg b) : Rg (max a b) := by unfold Rg at *; omega
theorem rg_sm (a b c : Int) (ha : Rg a) (hb : Rg b) (hc : Rg c) : Rg (min a (sm b c)) := by
  have hF : far = 1099511627776 := rfl
  unfold Rg at *
  by_cases h : b = far ∨ c = far
  · rw [sm_far h]; omega
  · rw [sm_sum h]; omega
theorem rg_mm (a b c : Int) (ha : Rg a) (hb : Rg b) (hc : Rg c) : Rg (max a (min b c)) := by unfold Rg at *; omega
/-- The walks of one edge at most; by what lies between. -/
abbrev cost0 (es : List E) : Nat → Nat → Int := sed min (fun c => c) es (st far 0) es.length
abbrev F (es : List E) : Nat → Nat → Nat → Int := fw min sm (cost0 es)
theorem sed_le (es : List E) (T : Nat → Nat → Int) (u v : Nat) {j k : Nat} (h : j ≤ k) : sed min (fun c => c) es T k u v ≤ sed min (fun c => c) es T j u v := by
  induction k with
  | zero => rw [show j = 0 by omega]; exact Int.le_refl _
  | succ k ih =>
    rcases (show j ≤ k ∨ j = k + 1 by omega) with h1 | rfl
    · refine Int.le_trans ?_ (ih h1)
      rw [sed]; unfold upt; split
      · rename_i e; rw [e.1, e.2]; omega
      · exact Int.le_refl _
    · exact Int.le_refl _
theorem cost0_edge {es : List E} {e : E} (he : e ∈ es) : cost0 es e.1.toNat e.2.1.toNat ≤ e.2.2 := by
  obtain ⟨j, hj, rfl⟩ := List.mem_iff_getElem.1 he
  have e3 : at3 es j = es[j] := by unfold at3; simp [hj]
  refine Int.le_trans (sed_le es _ _ _ (show j + 1 ≤ es.length by omega)) ?_
  rw [sed, e3, upt_same]
  omega
theorem cost0_st (es : List E) (u v : Nat) : cost0 es u v ≤ st far 0 u v := sed_le es _ u v (Nat.zero_le _)
theorem sed_from {es : List E} (T : Nat → Nat → Int) (k : Nat) (hk : k ≤ es.length) (u v : Nat) : sed min (fun c => c) es T k u v = T u v ∨ ∃ e ∈ es, e.1.toNat = u ∧ e.2.1.toNat = v ∧ sed min (fun c => c) es T k u v = e.2.2 := by
  induction k with
  | zero => exact .inl rfl
  | succ k ih =>
    have ih := ih (by omega)
    rw [sed]; unfold upt; split
    · rename_i e
      rw [← e.1, ← e.2]
      rcases (show min (sed min (fun c => c) es T k u v) (at3 es k).2.2 = sed min (fun c => c) es T k u v ∨ min (sed min (fun c => c) es T k u v) (at3 es k).2.2 = (at3 es k).2.2 by omega) with h | h
      · rw [h]; exact ih
      · exact .inr ⟨at3 es k, mem_at (by omega), e.1.symm, e.2.symm, h⟩
    · exact ih
theorem cost0_from (es : List E) (u v : Nat) : cost0 es u v = st far 0 u v ∨ ∃ e ∈ es, e.1.toNat = u ∧ e.2.1.toNat = v ∧ cost0 es u v = e.2.2 := sed_from _ es.length (Nat.le_refl _) u v
theorem F_next (es : List E) (k u v : Nat) : F es (k + 1) u v = min (F es k u v) (sm (F es k u k) (F es k k v)) := rfl
theorem F_down (es : List E) (k u v : Nat) : F es (k + 1) u v ≤ F es k u v := by rw [F_next]; omega
theorem F_zero (es : List E) (k u v : Nat) : F es k u v ≤ cost0 es u v := by
  induction k with
  | zero => exact Int.le_refl _
  | succ k ih => exact Int.le_trans (F_down es k u v) ih
theorem F_st (es : List E) (k u v : Nat) : F es k u v ≤ st far 0 u v := Int.le_trans (F_zero es k u v) (cost0_st es u v)
theorem F_hi (es : List E) (k u v : Nat) : F es k u v ≤ far := by
  have := F_st es k u v
  unfold st at this
  split at this
  · exact Int.le_trans this (by decide)
  · exact this
theorem F_self (es : List E) (k v : Nat) : F es k v v ≤ 0 := by
  have := F_st es k v v
  unfold st at this
  rw [if_pos rfl] at this; exact this

/-- The edges that a walk from u may take, if less than k lies between. -/
def esk (es : List E) (k u : Nat) : List E := es.filter (fun e => decide (e.1.toNat = u ∨ e.1.toNat < k))
theorem esk_mem {es : List E} {k u : Nat} {e : E} : e ∈ esk es k u ↔ e ∈ es ∧ (e.1.toNat = u ∨ e.1.toNat < k) := by
  unfold esk; rw [List.mem_filter]; simp
theorem esk_rnt {N : Nat} {es : List E} (hb : Rnt N es) (k u : Nat) : Rnt N (esk es k u) :=
  ⟨hb.n1, hb.n64, Nat.le_trans (List.length_filter_le _ _) hb.len, fun e he => hb.ok e (esk_mem.1 he).1⟩
theorem esk_all {N : Nat} {es : List E} (hi : Inn N es) (u : Nat) : esk es N u = es := by
  unfold esk
  exact List.filter_eq_self.2 (fun e he => decide_eq_true (.inr (hi e he).1))
theorem rc_sub {es es' : List E} {d0 : Nat → Int} (h : ∀ e ∈ es, e ∈ es') (k : Nat) : ∀ v c, Rc es d0 k v c → Rc es' d0 k v c := by
  induction k with
  | zero => intro v c h; exact h
  | succ k ih => rintro v c ⟨h1, e, he, h2, h3⟩; exact ⟨h1, e, h e he, h2, ih _ _ h3⟩
theorem rc_high {N : Nat} {es : List E} (hb : Rnt N es) {s : Nat} (k : Nat) : ∀ v c, Rc es (start s) k v c → c ≤ 10000 * (k : Int) := by
  induction k with
  | zero =>
    rintro v c ⟨h1, h2⟩
    unfold start at h1
    split at h1
    · omega
    · omega
  | succ k ih =>
    rintro v c ⟨_, e, he, _, h3⟩
    have := ih _ _ h3
    have := (hb.nat he).2.2.2
    omega
theorem rc_app {N : Nat} {es : List E} (hb : Rnt N es) {d0 : Nat → Int} {i m : Nat} {a : Int} (h1 : Rc es d0 i m a) (j : Nat) : ∀ v c, Rc es (start m) j v c → a + 10000 * (j : Int) < far → Rc es d0 (i + j) v (a + c) := by
  induction j with
  | zero =>
    rintro v c ⟨h2, h3⟩ _
    unfold start at h2
    split at h2
    · rename_i e; subst e; rw [← h2, Int.add_zero]; exact h1
    · omega
  | succ j ih =>
    intro v c h hf
    have h9 := rc_high hb (j + 1) v c h
    obtain ⟨_, e, he, h2, h3⟩ := h
    have := ih _ _ h3 (by omega)
    refine ⟨by omega, e, he, h2, ?_⟩
    rw [show a + c - e.2.2 = a + (c - e.2.2) by omega]
    exact this

/-- What lies between is looked at up to k, and all is well. -/
structure Bt (N : Nat) (es : List E) (k : Nat) : Prop where
  ls : ∀ u, u < N → Ls N (esk es k u) (start u) (F es k u)
  cl : ∀ m, m < k → ∀ x y, x < N → y < N → F es k x m < far → F es k m y < far → F es k x y ≤ F es k x m + F es k m y
theorem Bt.rng {N : Nat} {es : List E} (hb : Rnt N es) {k : Nat} (h : Bt N es k) {u v : Nat} (hu : u < N) (hv : v < N) (hf : F es k u v < far) : ∃ j, j + 1 ≤ N ∧ Rc (esk es k u) (start u) j v (F es k u v) ∧ -640000 ≤ F es k u v ∧ F es k u v ≤ 640000 := by
  have hb' := esk_rnt hb k u
  obtain ⟨j, h1, h2⟩ := (h.ls u hu).short hb'.inn hv hf
  have h3 := rc_high hb' j v _ h2
  have h4 := rc_low hb' (d0 := start u) (fun v _ => by unfold start; split <;> decide) j v _ hv h2
  have := hb.n64
  exact ⟨j, h1, h2, by omega, by omega⟩
theorem Bt.sum {N : Nat} {es : List E} (hb : Rnt N es) {k : Nat} (h : Bt N es k) {u v : Nat} (hk : k < N) (hu : u < N) (hv : v < N) (h1 : F es k u k < far) (h2 : F es k k v < far) : F es (k + 1) u v = min (F es k u v) (F es k u k + F es k k v) := by
  obtain ⟨_, _, _, a1, a2⟩ := h.rng hb hu hk h1
  obtain ⟨_, _, _, b1, b2⟩ := h.rng hb hk hv h2
  have hF : far = 1099511627776 := rfl
  rw [F_next, sm_sum (by omega)]
  omega
theorem F_stay {es : List E} {k u v : Nat} (h : ¬ (F es k u k < far ∧ F es k k v < far)) : F es (k + 1) u v = F es k u v := by
  have a := F_hi es k u k
  have b := F_hi es k k v
  have c := F_hi es k u v
  rw [F_next, sm_far (by omega)]
  omega
theorem bt_zero {N : Nat} {es : List E} (hb : Rnt N es) (h0 : ∀ v, v < N → 0 ≤ F es 0 v v) : Bt N es 0 := by
  refine ⟨fun u hu => ⟨fun v _ => F_hi es 0 u v, fun v _ => ?_, fun e he hf => ?_, fun v hv hf => ?_⟩, fun m hm => by omega⟩
  · have := F_st es 0 u v
    unfold st at this
    unfold start
    by_cases e : u = v
    · subst e; rw [if_pos rfl] at this ⊢; exact this
    · rw [if_neg e] at this; rw [if_neg (fun h => e h.symm)]; exact this
  · obtain ⟨h1, h2⟩ := esk_mem.1 he
    have h3 : e.1.toNat = u := by omega
    have h4 := cost0_edge h1
    rw [h3] at h4 ⊢
    have := h0 u hu
    have : F es 0 u e.2.1.toNat = cost0 es u e.2.1.toNat := rfl
    omega
  · rcases cost0_from es u v with h | ⟨e, he, h1, h2, h3⟩
    · have h' : F es 0 u v = st far 0 u v := h
      rw [h'] at hf ⊢
      unfold st at hf ⊢
      by_cases e : u = v
      · subst e; rw [if_pos rfl]; exact ⟨0, if_pos rfl, by decide⟩
      · rw [if_neg e] at hf; exact absurd hf (by omega)
    · have h' : F es 0 u v = e.2.2 := h3
      rw [h'] at hf ⊢
      refine ⟨1, hf, e, esk_mem.2 ⟨he, .inl h1⟩, h2, ?_⟩
      rw [Int.sub_self, h1]
      exact ⟨if_pos rfl, by decide⟩
theorem bt_next {N : Nat} {es : List E} (hb : Rnt N es) {k : Nat} (hk : k < N) (h : Bt N es k) (h0 : ∀ v, v < N → 0 ≤ F es k v v) (h0' : ∀ v, v < N → 0 ≤ F es (k + 1) v v) : Bt N es (k + 1) := by
  have hF : far = 1099511627776 := rfl
  have hkk : F es k k k = 0 := by have := F_self es k k; have := h0 k hk; omega
  -- the row and the column of k stay
  have col : ∀ x, x < N → F es (k + 1) x k = F es k x k := by
    intro x hx
    by_cases hc : F es k x k < far
    · rw [h.sum hb hk hx hk hc (by omega), hkk]; omega
    · exact F_stay (fun hh => hc hh.1)
  have row : ∀ y, y < N → F es (k + 1) k y = F es k k y := by
    intro y hy
    by_cases hc : F es k k y < far
    · rw [h.sum hb hk hk hy (by omega) hc, hkk]; omega
    · exact F_stay (fun hh => hc hh.2)
  -- each is what it was, or over k
  have way : ∀ x y, x < N → y < N → F es (k + 1) x y = F es k x y ∨ (F es k x k < far ∧ F es k k y < far ∧ F es (k + 1) x y = F es k x k + F es k k y) := by
    intro x y hx hy
    by_cases hc : F es k x k < far ∧ F es k k y < far
    · have := h.sum hb hk hx hy hc.1 hc.2
      rcases (show min (F es k x y) (F es k x k + F es k k y) = F es k x y ∨ min (F es k x y) (F es k x k + F es k k y) = F es k x k + F es k k y by omega) with h1 | h1
      · exact .inl (by omega)
      · exact .inr ⟨hc.1, hc.2, by omega⟩
    · exact .inl (F_stay hc)
  have over : ∀ x y, x < N → y < N → F es k x k < far → F es k k y < far → F es (k + 1) x y ≤ F es k x k + F es k k y := by
    intro x y hx hy h1 h2
    rw [h.sum hb hk hx hy h1 h2]; omega
  have cl : ∀ m, m < k + 1 → ∀ x y, x < N → y < N → F es (k + 1) x m < far → F es (k + 1) m y < far → F es (k + 1) x y ≤ F es (k + 1) x m + F es (k + 1) m y := by
    intro m hm x y hx hy h1 h2
    have hmN : m < N := by omega
    rcases (show m < k ∨ m = k by omega) with hmk | rfl
    · rcases way x m hx hmN with e1 | ⟨a1, a2, e1⟩
      · rw [e1] at h1 ⊢
        rcases way m y hmN hy with e2 | ⟨b1, b2, e2⟩
        · rw [e2] at h2 ⊢
          have := h.cl m hmk x y hx hy h1 h2
          have := F_down es k x y
          omega
        · rw [e2]
          have c1 := h.cl m hmk x k hx hk h1 b1
          obtain ⟨_, _, _, _, r1⟩ := h.rng hb hx hmN h1
          obtain ⟨_, _, _, _, r2⟩ := h.rng hb hmN hk b1
          have := over x y hx hy (by omega) b2
          omega
      · rw [e1] at h1 ⊢
        rcases way m y hmN hy with e2 | ⟨b1, b2, e2⟩
        · rw [e2] at h2 ⊢
          have c1 := h.cl m hmk k y hk hy a2 h2
          obtain ⟨_, _, _, _, r1⟩ := h.rng hb hk hmN a2
          obtain ⟨_, _, _, _, r2⟩ := h.rng hb hmN hy h2
          have := over x y hx hy a1 (by omega)
          omega
        · rw [e2]
          have c1 := h.cl m hmk k k hk hk a2 b1
          have := over x y hx hy a1 b2
          omega
    · rw [col x hx] at h1 ⊢
      rw [row y hy] at h2 ⊢
      exact over x y hx hy h1 h2
  refine ⟨fun u hu => ⟨fun v _ => F_hi es _ u v, fun v hv => Int.le_trans (F_down es k u v) ((h.ls u hu).base v hv), fun e he hf => ?_, fun v hv hf => ?_⟩, cl⟩
  · obtain ⟨h1, h2⟩ := esk_mem.1 he
    have ha := hb.nat h1
    have h4 := cost0_edge h1
    have h5 := F_zero es (k + 1) e.1.toNat e.2.1.toNat
    rcases h2 with h2 | h2
    · rw [h2] at h4 h5 ⊢
      have := h0' u hu
      omega
    · have := cl _ h2 u e.2.1.toNat hu ha.2.1 hf (by omega)
      omega
  · have sub : ∀ e ∈ esk es k u, e ∈ esk es (k + 1) u := fun e he => by
      obtain ⟨h1, h2⟩ := esk_mem.1 he
      exact esk_mem.2 ⟨h1, by omega⟩
    rcases way u v hu hv with e1 | ⟨a1, a2, e1⟩
    · rw [e1] at hf ⊢
      obtain ⟨j, hj⟩ := (h.ls u hu).real v hv hf
      exact ⟨j, rc_sub sub j v _ hj⟩
    · obtain ⟨i, i1, i2, _, i3⟩ := h.rng hb hu hk a1
      obtain ⟨j, j1, j2, _, j3⟩ := h.rng hb hk hv a2
      have sub2 : ∀ e ∈ esk es k k, e ∈ esk es (k + 1) u := fun e he => by
        obtain ⟨h1, h2⟩ := esk_mem.1 he
        exact esk_mem.2 ⟨h1, by omega⟩
      rw [e1]
      have := hb.n64
      exact ⟨i + j, rc_app (esk_rnt hb (k + 1) u) (rc_sub sub i k _ i2) j v _ (rc_sub sub2 j v _ j2) (by omega)⟩
theorem bt_of {N : Nat} {es : List E} (hb : Rnt N es) (k : Nat) (hk : k ≤ N) (h : ∀ j, j ≤ k → ∀ v, v < N → 0 ≤ F es j v v) : Bt N es k := by
  induction k with
  | zero => exact bt_zero hb (h 0 (Nat.le_refl _))
  | succ k ih => exact bt_next hb (by omega) (ih (by omega) (fun j hj => h j (by omega))) (h k (by omega)) (h (k + 1) (Nat.le_refl _))
theorem ls_walk {N : Nat} {es : List E} (hb : Rnt N es) {d : Nat → Int} (h : Ls N es (fun _ => 0) d) {s : Nat} (j : Nat) : ∀ v c, v < N → Rc es (start s) j v c → d v ≤ d s + c := by
  induction j with
  | zero =>
    rintro v c _ ⟨h1, h2⟩
    unfold start at h1
    split at h1
    · rename_i e; subst e; omega
    · omega
  | succ j ih =>
    rintro v c hv ⟨_, e, he, h1, h2⟩
    have ha := (hb.nat he).1
    have h3 := ih _ _ ha h2
    have h4 := h.base _ ha
    have hF : far = 1099511627776 := rfl
    have h5 := h.rel e he (by omega)
    rw [h1] at h5
    omega
/-- Where there is no bad cycle, no place has one. -/
theorem good_all {N : Nat} {es : List E} (hb : Rnt N es) (hs : (rns es (fun _ => 0) N).s = -1) (k : Nat) (hk : k ≤ N) : ∀ j, j ≤ k → ∀ v, v < N → 0 ≤ F es j v v := by
  have hl := rns_yes hb (d0 := fun _ => 0) (fun v _ => by decide) hs
  generalize (rns es (fun _ => 0) N).d = d at hl
  induction k with
  | zero =>
    intro j hj v hv
    obtain rfl : j = 0 := by omega
    rcases cost0_from es v v with h | ⟨e, he, h1, h2, h3⟩
    · have h' : F es 0 v v = st far 0 v v := h
      rw [h']; unfold st; rw [if_pos rfl]; exact Int.le_refl _
    · have h' : F es 0 v v = e.2.2 := h3
      rw [h']
      have h4 := hl.base v hv
      have hF : far = 1099511627776 := rfl
      have h5 := hl.rel e he (by rw [h1]; omega)
      rw [h1, h2] at h5
      omega
  | succ k ih =>
    have ih := ih (by omega)
    intro j hj v hv
    rcases (show j ≤ k ∨ j = k + 1 by omega) with hj | rfl
    · exact ih j hj v hv
    · have hB := bt_of hb k (by omega) ih
      have hkN : k < N := by omega
      by_cases hc : F es k v k < far ∧ F es k k v < far
      · rw [hB.sum hb hkN hv hv hc.1 hc.2]
        obtain ⟨i, _, i2, _⟩ := hB.rng hb hv hkN hc.1
        obtain ⟨j, _, j2, _⟩ := hB.rng hb hkN hv hc.2
        have sub : ∀ u, ∀ e ∈ esk es k u, e ∈ es := fun u e he => (esk_mem.1 he).1
        have h1 := ls_walk hb hl i k _ hkN (rc_sub (sub v) i k _ i2)
        have h2 := ls_walk hb hl j v _ hv (rc_sub (sub k) j v _ j2)
        have := ih k (Nat.le_refl _) v hv
        omega
      · rw [F_stay hc]; exact ih k (Nat.le_refl _) v hv
/-- The least of the first k rows. -/
def low (T : Nat → Nat → Int) : Nat → Nat → Int
  | 0 => fun _ => far
  | k + 1 => fun v => min (low T k v) (T k v)
theorem low_le (T : Nat → Nat → Int) {k u : Nat} (h : u < k) (v : Nat) : low T k v ≤ T u v := by
  induction k with
  | zero => omega
  | succ k ih =>
    rw [low]; dsimp only
    rcases (show u < k ∨ u = k by omega) with h1 | rfl
    · have := ih h1; omega
    · omega
theorem low_from (T : Nat → Nat → Int) (k v : Nat) (h : low T k v < far) : ∃ u, u < k ∧ low T k v = T u v := by
  induction k with
  | zero => exact absurd h (Int.lt_irrefl far)
  | succ k ih =>
    rw [low] at h ⊢; dsimp only at h ⊢
    rcases (show min (low T k v) (T k v) = low T k v ∨ min (low T k v) (T k v) = T k v by omega) with h1 | h1
    · rw [h1] at h ⊢
      obtain ⟨u, hu, e⟩ := ih h
      exact ⟨u, by omega, e⟩
    · exact ⟨k, by omega, h1⟩
theorem rc_zero {es : List E} {s : Nat} (k : Nat) : ∀ v c, Rc es (start s) k v c → Rc es (fun _ => 0) k v c := by
  induction k with
  | zero =>
    rintro v c ⟨h1, h2⟩
    unfold start at h1
    split at h1
    · exact ⟨h1, h2⟩
    · omega
  | succ k ih => rintro v c ⟨h1, e, he, h2, h3⟩; exact ⟨h1, e, he, h2, ih _ _ h3⟩
theorem all_ls {N : Nat} {es : List E} (hb : Rnt N es) (h : ∀ j, j ≤ N → ∀ v, v < N → 0 ≤ F es j v v) {u : Nat} (hu : u < N) : Ls N es (start u) (F es N u) := by
  have := (bt_of hb N (Nat.le_refl _) h).ls u hu
  rw [esk_all hb.inn] at this
  exact this
/-- Where no place has one, there is no bad cycle. -/
theorem all_good {N : Nat} {es : List E} (hb : Rnt N es) (h : ∀ j, j ≤ N → ∀ v, v < N → 0 ≤ F es j v v) : (rns es (fun _ => 0) N).s = -1 := by
  have hF : far = 1099511627776 := rfl
  have hself : ∀ v, v < N → low (F es N) N v ≤ 0 := fun v hv => by
    have := low_le (F es N) hv v
    have := F_self es N v
    omega
  have hl : Ls N es (fun _ => 0) (low (F es N) N) := by
    refine ⟨fun v hv => by have := hself v hv; omega, hself, fun e he _ => ?_, fun v hv hf => ?_⟩
    · have ha := hb.nat he
      have := hself _ ha.1
      obtain ⟨u, hu, e1⟩ := low_from (F es N) N e.1.toNat (by omega)
      rw [e1]
      have h1 := (all_ls hb h hu).rel e he (by omega)
      have h2 := low_le (F es N) hu e.2.1.toNat
      omega
    · obtain ⟨u, hu, e1⟩ := low_from (F es N) N v hf
      rw [e1] at hf ⊢
      obtain ⟨k, hk⟩ := (all_ls hb h hu).real v hv hf
      exact ⟨k, rc_zero k v _ hk⟩
  exact rns_no hb (fun v _ => by decide) hl
theorem F_spr {N : Nat} {es : List E} (hb : Rnt N es) (hs : (rns es (fun _ => 0) N).s = -1) {u v : Nat} (hu : u < N) (hv : v < N) : F es N u v = spr es (start u) (N - 1) v :=
  ((all_ls hb (good_all hb hs N (Nat.le_refl _)) hu).spr hb.inn (fun v _ => by unfold start; split <;> decide) (by omega) v hv).symm
theorem calm_min {es : List E} {N k : Nat} (h : 0 ≤ F es k k k) : Calm min sm N k (F es k) := by
  have key : ∀ a d : Int, a ≤ far → 0 ≤ d → min a (sm a d) = a := by
    intro a d ha hd
    by_cases h : a = far ∨ d = far
    · rw [sm_far h]; omega
    · rw [sm_sum h]; omega
  exact ⟨fun u _ => key _ _ (F_hi es k u k) h, fun v _ => by rw [sm_comm]; exact key _ _ (F_hi es k k v) h⟩
/-- In place: it is as at once, or some place has a bad cycle. -/
theorem inplace {N : Nat} {es : List E} (k : Nat) (hk : k ≤ N) : ((∀ j, j ≤ k → ∀ v, v < N → 0 ≤ F es j v v) ∧ ∀ u v, u < N → v < N → allf min sm N (cost0 es) k u v = F es k u v) ∨ ∃ v, v < N ∧ allf min sm N (cost0 es) k v v < 0 := by
  induction k with
  | zero =>
    by_cases h : ∀ v, v < N → 0 ≤ F es 0 v v
    · exact .inl ⟨fun j hj => by rw [show j = 0 by omega]; exact h, fun u v _ _ => rfl⟩
    · right
      simp only [Classical.not_forall] at h
      obtain ⟨v, hv, h⟩ := h
      exact ⟨v, hv, Int.not_le.1 h⟩
  | succ k ih =>
    rcases ih (by omega) with ⟨h1, h2⟩ | ⟨v, hv, h⟩
    · have h3 := allf_next (best := min) (join := sm) (by omega) (calm_min (h1 k (Nat.le_refl _) k (by omega))) h2
      by_cases h : ∀ v, v < N → 0 ≤ F es (k + 1) v v
      · refine .inl ⟨fun j hj => ?_, h3⟩
        rcases (show j ≤ k ∨ j = k + 1 by omega) with hj | rfl
        · exact h1 j hj
        · exact h
      · right
        simp only [Classical.not_forall] at h
        obtain ⟨v, hv, h⟩ := h
        exact ⟨v, hv, by rw [h3 v v hv hv]; exact Int.not_le.1 h⟩
    · right
      refine ⟨v, hv, Int.lt_of_le_of_lt ?_ h⟩
      exact midf_le (le := fun a b : Int => a ≤ b) (fun a => Int.le_refl a) (fun a b c => Int.le_trans) (fun a b => by omega) N k _ N v v
/-- What is in the rows in the end. -/
abbrev fin (N : Nat) (es : List E) : Nat → Nat → Int := allf min sm N (cost0 es) N
theorem fin_good {N : Nat} {es : List E} (hb : Rnt N es) (hs : (rns es (fun _ => 0) N).s = -1) : (∀ u v, u < N → v < N → fin N es u v = spr es (start u) (N - 1) v) ∧ ∀ v, v < N → 0 ≤ fin N es v v := by
  have hall := good_all hb hs N (Nat.le_refl _)
  rcases inplace (es := es) N (Nat.le_refl N) with ⟨_, h2⟩ | ⟨v, hv, h⟩
  · exact ⟨fun u v hu hv => by rw [← F_spr hb hs hu hv]; exact h2 u v hu hv, fun v hv => by show 0 ≤ allf min sm N (cost0 es) N v v; rw [h2 v v hv hv]; exact hall N (Nat.le_refl _) v hv⟩
  · exfalso
    have key : ∀ k, k ≤ N → ∀ u v, u < N → v < N → allf min sm N (cost0 es) k u v = F es k u v := by
      intro k
      induction k with
      | zero => intro _ u v _ _; rfl
      | succ k ih => intro hk; exact allf_next (by omega) (calm_min (hall k (by omega) k (by omega))) (ih (by omega))
    rw [key N (Nat.le_refl _) v v hv hv] at h
    have := hall N (Nat.le_refl _) v hv
    omega
theorem fin_bad {N : Nat} {es : List E} (hb : Rnt N es) (hs : (rns es (fun _ => 0) N).s ≠ -1) : ∃ v, v < N ∧ fin N es v v < 0 := by
  rcases inplace (es := es) N (Nat.le_refl N) with ⟨h1, _⟩ | h
  · exact absurd (all_good hb h1) hs
  · exact h
/-- Over a third place. -/
theorem spr_over {N : Nat} {es : List E} (hb : Rnt N es) (hs : (rns es (fun _ => 0) N).s = -1) {i j k : Nat} (hi : i < N) (hj : j < N) (hk : k < N) :
    spr es (start i) (N - 1) i = 0 ∧ (spr es (start i) (N - 1) k < far → spr es (start k) (N - 1) j < far → spr es (start i) (N - 1) j ≤ spr es (start i) (N - 1) k + spr es (start k) (N - 1) j) := by
  have hall := good_all hb hs N (Nat.le_refl _)
  rw [← F_spr hb hs hi hi, ← F_spr hb hs hi hk, ← F_spr hb hs hk hj, ← F_spr hb hs hi hj]
  refine ⟨?_, (bt_of hb N (Nat.le_refl _) hall).cl k hk i j hi hj⟩
  have := F_self es N i
  have := hall N (Nat.le_refl _) i hi
  omega
/-- The net turned round. -/
theorem F_turn (es : List E) (k u v : Nat) : F (es.map trn) k u v = F es k v u := by
  refine fw_turn sm_comm (fun a b => ?_) k u v
  show sed min (fun c => c) (es.map trn) (st far 0) (es.map trn).length a b = _
  rw [List.length_map]
  exact sed_turn (fun x y => st_turn far 0 x y) es.length (Nat.le_refl _) a b
theorem rnt_turn {N : Nat} {es : List E} (h : Rnt N es) : Rnt N (es.map trn) := by
  refine ⟨h.n1, h.n64, by simpa using h.len, fun e he => ?_⟩
  obtain ⟨x, hx, rfl⟩ := List.mem_map.1 he
  obtain ⟨a, b, c, d, e, f⟩ := h.ok x hx
  exact ⟨c, d, a, b, e, f⟩
theorem good_turn {N : Nat} {es : List E} (hb : Rnt N es) : (rns (es.map trn) (fun _ => 0) N).s = -1 ↔ (rns es (fun _ => 0) N).s = -1 := by
  constructor
  · intro h
    refine all_good hb (fun j hj v hv => ?_)
    have := good_all (rnt_turn hb) h N (Nat.le_refl _) j hj v hv
    rw [F_turn] at this
    exact this
  · intro h
    refine all_good (rnt_turn hb) (fun j hj v hv => ?_)
    rw [F_turn]
    exact good_all hb h N (Nat.le_refl _) j hj v hv
theorem spr_turn {N : Nat} {es : List E} (hb : Rnt N es) (hs : (rns es (fun _ => 0) N).s = -1) {u v : Nat} (hu : u < N) (hv : v < N) : spr es (start u) (N - 1) v = spr (es.map trn) (start v) (N - 1) u := by
  rw [← F_spr hb hs hu hv, ← F_spr (rnt_turn hb) ((good_turn hb).2 hs) hv hu, F_turn]
theorem fww_turn (es : List E) (k u v : Nat) : fww (es.map trn) k u v = fww es k v u := by
  refine fw_turn (fun a b => by omega) (fun a b => ?_) k u v
  show sed max (fun c => c) (es.map trn) (st (-far) far) (es.map trn).length a b = _
  rw [List.length_map]
  exact sed_turn (fun x y => st_turn (-far) far x y) es.length (Nat.le_refl _) a b
theorem fwb_turn (edge : Int → Bool) (es : List E) (k u v : Nat) : fwb edge (es.map trn) k u v = fwb edge es k v u := by
  refine fw_turn (fun a b => Bool.and_comm a b) (fun a b => ?_) k u v
  show sed or edge (es.map trn) (st false true) (es.map trn).length a b = _
  rw [List.length_map]
  exact sed_turn (fun x y => st_turn false true x y) es.length (Nat.le_refl _) a b
end Go.Proofs.Ytdgihpegdcoilaa.Fl
