/-
  The ring that is left where costs sink without end: who stands ahead of whom, and that it costs less than 0. No Go in sight.
-/
import Derived.Test.YtlmichnnpameeaaBm
namespace Go.Proofs.Ytlmichnnpameeaa.Ry
open Nm Wm Dm Bm
set_option linter.unusedSimpArgs false

/-- In round r the first i edges are looked at. -/
structure Cy (N : Nat) (es : List E) (r i : Nat) (q : St) : Prop where
  tn : ∀ v, v < N → q.t v < r * 1000 + i
  pr : ∀ v, v < N → q.t v ≠ 0 → ∃ (x : Nat) (c : Int), x < N ∧ q.a v = (x : Int) ∧ ((x : Int), (v : Int), c) ∈ es ∧ q.t v / 1000 ≤ q.t x / 1000 + 1 ∧ q.d x + c ≤ q.d v ∧ (q.t v ≤ q.t x → q.d x + c + 1 ≤ q.d v)
  rx : ∀ j, j < es.length → (i ≤ j → 2 ≤ r) → q.d (at3 es j).1.toNat < far → q.d (at3 es j).2.1.toNat ≤ q.d (at3 es j).1.toNat + (at3 es j).2.2 ∨ (if j < i then r * 1000 + j else (r - 1) * 1000 + j) ≤ q.t (at3 es j).1.toNat
  sk : q.s = -1 ∨ ∃ v, v < N ∧ q.s = (v : Int) ∧ r * 1000 ≤ q.t v
theorem cy_first (N : Nat) (es : List E) (d0 : Nat → Int) : Cy N es 1 0 (rnd 1 es (rns es d0 0) 0) := by
  refine ⟨fun v _ => by show (0 : Nat) < _; omega, fun v _ h => absurd rfl h, fun j _ h => absurd (h (Nat.zero_le _)) (by omega), .inl rfl⟩
theorem cy_round {N : Nat} {es : List E} {r : Nat} {q : St} (hb : Rnt N es) (h : Cy N es r es.length q) : Cy N es (r + 1) 0 (rnd (r + 1) es q 0) := by
  have hl := hb.len
  refine ⟨fun v hv => ?_, h.pr, fun j hj _ hf => ?_, .inl rfl⟩
  · exact Nat.lt_of_lt_of_le (h.tn v hv) (by omega)
  · have := h.rx j hj (fun hh => by omega) hf
    rw [if_pos hj] at this
    rw [if_neg (by omega)]
    exact this
theorem cy_step {N : Nat} {es : List E} {r i : Nat} {q : St} (hb : Rnt N es) (hr : 1 ≤ r) (hi : i < es.length) (h : Cy N es r i q) : Cy N es r (i + 1) (rstep (r * 1000 + i) (at3 es i) q) := by
  have hl := hb.len
  have hm : at3 es i ∈ es := mem_at hi
  have hok := hb.ok _ hm
  have hR := h.rx i hi
  by_cases hs : Sinks q.d (at3 es i)
  · rw [rstep_yes _ hs]
    unfold Sinks at hs
    have hRX : ∀ j, j < es.length → j ≠ i → (i + 1 ≤ j → 2 ≤ r) → q.d (at3 es j).1.toNat < far → q.d (at3 es j).2.1.toNat ≤ q.d (at3 es j).1.toNat + (at3 es j).2.2 ∨ (if j < i then r * 1000 + j else (r - 1) * 1000 + j) ≤ q.t (at3 es j).1.toNat := fun j hj hne h2 => h.rx j hj (fun hh => h2 (by omega))
    generalize hp : at3 es i = p at *
    obtain ⟨x, y, c⟩ := p
    simp only at hs hok hR ⊢
    obtain ⟨o1, o2, o3, o4, o5, o6⟩ := hok
    obtain ⟨x, rfl⟩ := Int.eq_ofNat_of_zero_le o1
    obtain ⟨y, rfl⟩ := Int.eq_ofNat_of_zero_le o3
    simp only [Int.toNat_natCast] at hs hR ⊢
    have hxN : x < N := by omega
    have hyN : y < N := by omega
    have tx := h.tn x hxN
    have ty := h.tn y hyN
    refine ⟨fun v hv => ?_, fun v hv ht => ?_, fun j hj h2 hf => ?_, .inr ⟨y, hyN, rfl, by simp only [tup_same]; omega⟩⟩
    · have := h.tn v hv
      by_cases e : v = y
      · subst e; simp only [tup_same]; omega
      · simp only [tup_other _ _ e]; omega
    · by_cases e : v = y
      · subst e
        refine ⟨x, c, hxN, by simp only [upd_same], hm, ?_, ?_, ?_⟩
        · simp only [tup_same]
          by_cases ex : x = v
          · subst ex; simp only [tup_same]; omega
          · simp only [tup_other _ _ ex]
            by_cases h2 : 2 ≤ r
            · rcases hR (fun _ => h2) hs.1 with h3 | h3
              · omega
              · rw [if_neg (by omega)] at h3
                omega
            · omega
        · simp only [upd_same]
          by_cases ex : x = v
          · subst ex; simp only [upd_same]; omega
          · simp only [upd_other _ _ ex]; omega
        · simp only [upd_same, tup_same]
          by_cases ex : x = v
          · subst ex; simp only [upd_same]; intro _; omega
          · simp only [tup_other _ _ ex]; intro hh; omega
      · simp only [tup_other _ _ e] at ht
        obtain ⟨z, cz, hz, a1, a2, a3, a4, a5⟩ := h.pr v hv ht
        have tv := h.tn v hv
        refine ⟨z, cz, hz, by simp only [upd_other _ _ e]; exact a1, a2, ?_, ?_, ?_⟩
        · simp only [tup_other _ _ e]
          by_cases ez : z = y
          · subst ez; simp only [tup_same]; omega
          · simp only [tup_other _ _ ez]; exact a3
        · simp only [upd_other _ _ e]
          by_cases ez : z = y
          · subst ez; simp only [upd_same]; omega
          · simp only [upd_other _ _ ez]; exact a4
        · simp only [upd_other _ _ e, tup_other _ _ e]
          by_cases ez : z = y
          · subst ez; simp only [upd_same, tup_same]; intro _; omega
          · simp only [upd_other _ _ ez, tup_other _ _ ez]; exact a5
    · by_cases ji : j = i
      · subst ji
        rw [hp] at hf ⊢
        simp only [Int.toNat_natCast] at hf ⊢
        by_cases ex : x = y
        · subst ex; right; simp only [tup_same]; rw [if_pos (by omega)]; omega
        · left; simp only [upd_same, upd_other _ _ ex]; omega
      · by_cases ex : (at3 es j).1.toNat = y
        · right
          rw [ex]; simp only [tup_same]
          split <;> omega
        · simp only [upd_other _ _ ex] at hf ⊢
          simp only [tup_other _ _ ex]
          rcases hRX j hj ji h2 hf with h3 | h3
          · left
            by_cases ey : (at3 es j).2.1.toNat = y
            · rw [ey] at h3 ⊢; simp only [upd_same]; omega
            · simp only [upd_other _ _ ey]; exact h3
          · right
            by_cases hji : j < i
            · rw [if_pos hji] at h3; rw [if_pos (by omega)]; exact h3
            · rw [if_neg hji] at h3; rw [if_neg (by omega)]; exact h3
  · rw [rstep_no _ hs]
    refine ⟨fun v hv => by have := h.tn v hv; omega, h.pr, fun j hj h2 hf => ?_, h.sk⟩
    by_cases ji : j = i
    · subst ji
      left
      have : ¬ q.d (at3 es j).1.toNat + (at3 es j).2.2 < q.d (at3 es j).2.1.toNat := fun hh => hs ⟨hf, hh⟩
      omega
    · rcases h.rx j hj (fun hh => h2 (by omega)) hf with h3 | h3
      · exact .inl h3
      · right
        by_cases hji : j < i
        · rw [if_pos hji] at h3; rw [if_pos (by omega)]; exact h3
        · rw [if_neg hji] at h3; rw [if_neg (by omega)]; exact h3
theorem cy_rnd {N : Nat} {es : List E} {r : Nat} {q : St} (hb : Rnt N es) (hr : 1 ≤ r) (h : Cy N es r 0 (rnd r es q 0)) (k : Nat) (hk : k ≤ es.length) : Cy N es r k (rnd r es q k) := by
  induction k with
  | zero => exact h
  | succ k ih => exact cy_step hb hr (by omega) (ih (by omega))
theorem cy_rns {N : Nat} {es : List E} (hb : Rnt N es) (d0 : Nat → Int) (r : Nat) : Cy N es (r + 1) es.length (rns es d0 (r + 1)) := by
  induction r with
  | zero => exact cy_rnd hb (by omega) (cy_first N es d0) es.length (Nat.le_refl _)
  | succ r ih => exact cy_rnd hb (by omega) (cy_round hb ih) es.length (Nat.le_refl _)

/-- So many steps. -/
def itr (p : Nat → Nat) : Nat → Nat → Nat
  | 0, v => v
  | k + 1, v => p (itr p k v)
theorem itr_add (p : Nat → Nat) (a b v : Nat) : itr p (a + b) v = itr p a (itr p b v) := by
  induction a with
  | zero => rw [Nat.zero_add]; rfl
  | succ a ih => rw [Nat.succ_add]; show p (itr p (a + b) v) = p _; rw [ih]
theorem pigeon (n : Nat) (f : Nat → Nat) (h : ∀ i, i ≤ n → f i < n) : ∃ i j, i < j ∧ j ≤ n ∧ f i = f j := by
  induction n generalizing f with
  | zero => exact absurd (h 0 (Nat.le_refl _)) (by omega)
  | succ n ih =>
    by_cases hh : ∃ i, i < n + 1 ∧ f i = f (n + 1)
    · obtain ⟨i, hi, he⟩ := hh
      exact ⟨i, n + 1, hi, Nat.le_refl _, he⟩
    · have hne : ∀ i, i < n + 1 → f i ≠ f (n + 1) := fun i hi he => hh ⟨i, hi, he⟩
      obtain ⟨i, j, h1, h2, h3⟩ := ih (fun i => if f i = n then f (n + 1) else f i) (fun i hi => by
        have a := h i (by omega)
        have b := h (n + 1) (Nat.le_refl _)
        have c := hne i (by omega)
        split <;> omega)
      refine ⟨i, j, h1, by omega, ?_⟩
      have ci := hne i (by omega)
      have cj := hne j (by omega)
      split at h3 <;> split at h3 <;> omega
/-- The ring: from where so many steps lead. -/
structure Rg (N : Nat) (es : List E) (q : St) (s : Nat) (m : Nat) : Prop where
  go : ∀ k, itr (fun v => (q.a v).toNat) k s < N ∧ q.a (itr (fun v => (q.a v).toNat) k s) = (itr (fun v => (q.a v).toNat) (k + 1) s : Nat)
  m1 : 1 ≤ m
  mN : m ≤ N
  back : itr (fun v => (q.a v).toNat) (N + m) s = itr (fun v => (q.a v).toNat) N s
  first : ∀ k, 1 ≤ k → k < m → itr (fun v => (q.a v).toNat) (N + k) s ≠ itr (fun v => (q.a v).toNat) N s
  edge : ∀ k, ∃ c, ((itr (fun v => (q.a v).toNat) (k + 1) s : Int), (itr (fun v => (q.a v).toNat) k s : Int), c) ∈ es ∧ q.d (itr (fun v => (q.a v).toNat) (k + 1) s) + c ≤ q.d (itr (fun v => (q.a v).toNat) k s) ∧ (q.t (itr (fun v => (q.a v).toNat) k s) ≤ q.t (itr (fun v => (q.a v).toNat) (k + 1) s) → q.d (itr (fun v => (q.a v).toNat) (k + 1) s) + c + 1 ≤ q.d (itr (fun v => (q.a v).toNat) k s))
theorem ring_is {N : Nat} {es : List E} (hb : Rnt N es) (d0 : Nat → Int) (hs : (rns es d0 N).s ≠ -1) : ∃ s m : Nat, (rns es d0 N).s = (s : Int) ∧ Rg N es (rns es d0 N) s m := by
  have hn := hb.n1
  have hcy : Cy N es N es.length (rns es d0 N) := by
    obtain ⟨r, rfl⟩ : ∃ r, N = r + 1 := ⟨N - 1, by omega⟩
    exact cy_rns hb d0 r
  generalize rns es d0 N = q at *
  rcases hcy.sk with h | ⟨s, hsN, hse, hst⟩
  · exact absurd h hs
  refine ⟨s, ?_⟩
  obtain ⟨p, hp⟩ : ∃ p : Nat → Nat, p = fun v => (q.a v).toNat := ⟨_, rfl⟩
  have hpv : ∀ v, p v = (q.a v).toNat := fun v => by rw [hp]
  have chain : ∀ k, k ≤ N → itr p k s < N ∧ N ≤ q.t (itr p k s) / 1000 + k := by
    intro k
    induction k with
    | zero => intro _; exact ⟨hsN, by show N ≤ q.t s / 1000 + 0; omega⟩
    | succ k ih =>
      intro hk
      obtain ⟨h1, h2⟩ := ih (by omega)
      obtain ⟨x, c, hx, a1, _, a3, _, _⟩ := hcy.pr _ h1 (fun e => by rw [e] at h2; omega)
      have hxe : itr p (k + 1) s = x := by show p (itr p k s) = x; rw [hpv, a1]; rfl
      rw [hxe]
      exact ⟨hx, by omega⟩
  obtain ⟨i, j, hij, hjN, heq⟩ := pigeon N (fun k => itr p k s) (fun k hk => (chain k hk).1)
  have per : ∀ m, itr p (m + j) s = itr p (m + i) s := fun m => by rw [itr_add, itr_add, heq]
  have low : ∀ k, ∃ k', k' < N ∧ itr p k s = itr p k' s := by
    intro k
    induction k using Nat.strongRecOn with
    | ind k ih =>
      by_cases hk : k < j
      · exact ⟨k, by omega, rfl⟩
      · obtain ⟨k', h1, h2⟩ := ih (k - j + i) (by omega)
        refine ⟨k', h1, ?_⟩
        rw [← h2, ← per, show k - j + j = k by omega]
  have good : ∀ k, itr p k s < N ∧ q.t (itr p k s) ≠ 0 := by
    intro k
    obtain ⟨k', h1, h2⟩ := low k
    obtain ⟨h3, h4⟩ := chain k' (by omega)
    rw [h2]
    exact ⟨h3, fun e => by rw [e] at h4; omega⟩
  have ring : itr p (N + (j - i)) s = itr p N s := by
    have := per (N - i)
    rw [show N - i + j = N + (j - i) by omega, show N - i + i = N by omega] at this
    exact this
  obtain ⟨m, hm1, ⟨hm2, hm3⟩, hm4⟩ := least_of (P := fun m => 1 ≤ m ∧ itr p (N + m) s = itr p N s) (j - i) ⟨by omega, ring⟩
  refine ⟨m, hse, ?_⟩
  have hE : ∀ k, ∃ c, q.a (itr p k s) = (itr p (k + 1) s : Nat) ∧ ((itr p (k + 1) s : Int), (itr p k s : Int), c) ∈ es ∧ q.d (itr p (k + 1) s) + c ≤ q.d (itr p k s) ∧ (q.t (itr p k s) ≤ q.t (itr p (k + 1) s) → q.d (itr p (k + 1) s) + c + 1 ≤ q.d (itr p k s)) := by
    intro k
    obtain ⟨h1, h2⟩ := good k
    obtain ⟨x, c, hx, a1, a2, _, a4, a5⟩ := hcy.pr _ h1 h2
    have hxe : itr p (k + 1) s = x := by show p (itr p k s) = x; rw [hpv, a1]; rfl
    exact ⟨c, by rw [hxe]; exact a1, by rw [hxe]; exact a2, by rw [hxe]; exact a4, by rw [hxe]; exact a5⟩
  rw [hp] at *
  exact ⟨fun k => ⟨(good k).1, by obtain ⟨c, h1, _⟩ := hE k; exact h1⟩, hm2, by omega, hm3, fun k h1 h2 h3 => hm4 k h2 ⟨h1, h3⟩, fun k => by obtain ⟨c, _, h2⟩ := hE k; exact ⟨c, h2⟩⟩

/-- The ring's places, from a place on, the way back. -/
def cyc (f : Nat → Nat) (m : Nat) : List Int := (List.range m).map (fun k => (f k : Int))
theorem cyc_next (f : Nat → Nat) (m : Nat) : cyc f (m + 1) = cyc f m ++ [(f m : Int)] := by unfold cyc; rw [List.range_succ, List.map_append]; rfl
theorem cyc_length (f : Nat → Nat) (m : Nat) : (cyc f m).length = m := by simp [cyc]
theorem cyc_rev (f : Nat → Nat) (m : Nat) : (cyc f (m + 1)).reverse = (f m : Int) :: (cyc f m).reverse := by rw [cyc_next, List.reverse_append]; rfl
theorem cyc_at (f : Nat → Nat) {m i : Nat} (h : i < m) : (cyc f m).getD i 0 = (f i : Int) := by simp [cyc, List.getD_eq_getElem?_getD, h]
theorem rev_at (f : Nat → Nat) {m i : Nat} (h : i < m) : (cyc f m).reverse.getD i 0 = (f (m - 1 - i) : Int) := by
  have hl := cyc_length f m
  rw [List.getD_eq_getElem?_getD, List.getElem?_reverse (by omega), hl, ← List.getD_eq_getElem?_getD, cyc_at f (by omega)]
theorem cyc_first (f : Nat → Nat) {m : Nat} (h : 1 ≤ m) : ∃ l, (cyc f m).reverse = l ++ [(f 0 : Int)] := by
  obtain ⟨k, rfl⟩ : ∃ k, m = k + 1 := ⟨m - 1, by omega⟩
  refine ⟨(((List.range k).map (fun i => (f (i + 1) : Int)))).reverse, ?_⟩
  unfold cyc
  rw [List.range_succ_eq_map, List.map_cons, List.reverse_cons, List.map_map]
  rfl
theorem chp_le {u v c : Int} {es : List E} (h : (u, v, c) ∈ es) : ∃ c', chp u v es = some c' ∧ c' ≤ c := by
  cases hc : chp u v es with
  | none => exact absurd ⟨rfl, rfl⟩ (chp_none hc _ h)
  | some c' => exact ⟨c', rfl, (chp_some hc).2 _ h rfl rfl⟩
theorem back_cost {es : List E} {f : Nat → Nat} {d : Nat → Int} {t : Nat → Nat} (h : ∀ k, ∃ c, ((f (k + 1) : Int), (f k : Int), c) ∈ es ∧ d (f (k + 1)) + c ≤ d (f k) ∧ (t (f k) ≤ t (f (k + 1)) → d (f (k + 1)) + c + 1 ≤ d (f k))) (k : Nat) :
    ∃ s, wc es (cyc f (k + 1)).reverse = some s ∧ d (f k) + s ≤ d (f 0) ∧ (d (f k) + s + 1 ≤ d (f 0) ∨ t (f k) + k ≤ t (f 0)) := by
  induction k with
  | zero => exact ⟨0, rfl, by omega, .inr (by omega)⟩
  | succ k ih =>
    obtain ⟨s, h1, h2, h3⟩ := ih
    obtain ⟨c, e1, e2, e3⟩ := h k
    obtain ⟨c', hc, hle⟩ := chp_le e1
    refine ⟨c' + s, ?_, by omega, ?_⟩
    · rw [cyc_rev, cyc_rev, wc_on hc, ← cyc_rev, h1]; rfl
    · by_cases ht : t (f k) ≤ t (f (k + 1))
      · have := e3 ht; left; omega
      · rcases h3 with h3 | h3
        · left; omega
        · right; omega
/-- The ring, closed, costs less than 0. -/
theorem ring_cost {es : List E} {f : Nat → Nat} {d : Nat → Int} {t : Nat → Nat} (h : ∀ k, ∃ c, ((f (k + 1) : Int), (f k : Int), c) ∈ es ∧ d (f (k + 1)) + c ≤ d (f k) ∧ (t (f k) ≤ t (f (k + 1)) → d (f (k + 1)) + c + 1 ≤ d (f k))) {m : Nat} (hm : 1 ≤ m) (hback : f m = f 0) :
    ∃ s, wc es ((cyc f m).reverse ++ [(cyc f m).reverse.getD 0 0]) = some s ∧ s < 0 := by
  obtain ⟨s, h1, _, h3⟩ := back_cost h m
  refine ⟨s, ?_, ?_⟩
  · obtain ⟨k, rfl⟩ : ∃ k, m = k + 1 := ⟨m - 1, by omega⟩
    rw [rev_at f (by omega), show k + 1 - 1 - 0 = k by omega]
    obtain ⟨l, hl⟩ := cyc_first f hm
    rw [hl, List.append_assoc]
    rw [show ([(f 0 : Int)] : List Int) ++ [(f k : Int)] = (f 0 : Int) :: [(f k : Int)] from rfl, wc_parts, ← hl, wc_two, wc_one]
    rw [cyc_rev, cyc_rev, wc_two, ← cyc_rev, hback] at h1
    cases hc : chp (f 0 : Int) (f k : Int) es with
    | none => rw [hc] at h1; cases h1
    | some c =>
      rw [hc] at h1
      cases hw : wc es (cyc f (k + 1)).reverse with
      | none => rw [hw] at h1; cases h1
      | some b => rw [hw] at h1; simp at h1 ⊢; omega
  · rw [hback] at h3
    omega
theorem ring_apart {p : Nat → Nat} {s m : Nat} (hback : itr p m s = s) (hfirst : ∀ k, 1 ≤ k → k < m → itr p k s ≠ s) {a b : Nat} (hab : a < b) (hb : b < m) : itr p a s ≠ itr p b s := by
  intro he
  have h1 : itr p (m - b + a) s = itr p (m - b + b) s := by rw [itr_add, itr_add, he]
  rw [show m - b + b = m by omega, hback] at h1
  exact hfirst _ (by omega) (by omega) h1
end Go.Proofs.Ytlmichnnpameeaa.Ry
