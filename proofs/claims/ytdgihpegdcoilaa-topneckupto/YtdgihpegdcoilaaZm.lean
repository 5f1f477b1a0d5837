/-
  Plain costs from one place, where no edge costs less than 0: how they are found. No Go in sight.
-/
import Derived.Test.YtdgihpegdcoilaaBm
namespace Go.Proofs.Ytdgihpegdcoilaa.Zm
open Nm Wm Dm Bm
set_option linter.unusedSimpArgs false

/-- A net of costs of 0 and above. -/
structure Qn (N : Nat) (es : List E) : Prop where
  n1 : 1 ≤ N
  n64 : N ≤ 64
  len : es.length ≤ 600
  ok : ∀ e ∈ es, 0 ≤ e.1 ∧ e.1 < N ∧ 0 ≤ e.2.1 ∧ e.2.1 < N ∧ 0 ≤ e.2.2 ∧ e.2.2 ≤ 1000000
theorem Qn.nat {N : Nat} {es : List E} (h : Qn N es) {e : E} (he : e ∈ es) : e.1.toNat < N ∧ e.2.1.toNat < N ∧ 0 ≤ e.2.2 ∧ e.2.2 ≤ 1000000 := by
  have := h.ok e he; omega
theorem Qn.inn {N : Nat} {es : List E} (h : Qn N es) : Inn N es := fun _ he => ⟨(h.nat he).1, (h.nat he).2.1⟩
theorem qn_of {n : Int} {es : List E} (h : nps n es = 0) : Qn n.toNat es ∧ Rnt n.toNat es ∧ ((n.toNat : Nat) : Int) = n := by
  have h0 : nck n es = 0 := by
    by_cases h0 : nck n es = 0
    · exact h0
    · rw [nps_bad h0] at h; exact absurd h h0
  obtain ⟨hb, hn⟩ := bn_of h0
  unfold nps at h
  rw [if_neg (by simp [h0])] at h
  split at h
  · rename_i hall
    refine ⟨⟨hb.n1, hb.n64, hb.len, fun e he => ?_⟩, hb, hn⟩
    have h1 := hb.ok e he
    have h2 := of_decide_eq_true (List.all_eq_true.1 hall e he)
    omega
  · cases h
/-- A walk from s whose places, but the last, cost K at most, each had over the one ahead. -/
def Tw (es : List E) (s : Nat) (d : Nat → Int) (K : Int) : Nat → Nat → Prop
  | 0, v => v = s
  | k + 1, v => ∃ e ∈ es, e.2.1.toNat = v ∧ d e.1.toNat ≤ K ∧ d e.1.toNat + e.2.2 = d v ∧ Tw es s d K k e.1.toNat
theorem tw_more {es : List E} {s : Nat} {d : Nat → Int} {K K' : Int} (hK : K ≤ K') (k : Nat) : ∀ v, Tw es s d K k v → Tw es s d K' k v := by
  induction k with
  | zero => intro v h; exact h
  | succ k ih =>
    rintro v ⟨e, he, h1, h2, h3, h4⟩
    exact ⟨e, he, h1, by omega, h3, ih _ h4⟩
theorem tw_upd {es : List E} {s : Nat} {d : Nat → Int} {K x : Int} {y : Nat} (hy : K < d y) (k : Nat) : ∀ v, v ≠ y → Tw es s d K k v → Tw es s (upd d y x) K k v := by
  induction k with
  | zero => intro v _ h; exact h
  | succ k ih =>
    rintro v hv ⟨e, he, h1, h2, h3, h4⟩
    have hne : e.1.toNat ≠ y := fun e => by rw [e] at h2; omega
    exact ⟨e, he, h1, by rw [upd_other _ _ hne]; exact h2, by rw [upd_other _ _ hne, upd_other _ _ hv]; exact h3, ih _ hne h4⟩
theorem tw_rk {N : Nat} {es : List E} {s : Nat} {d : Nat → Int} {K : Int} (hp : Qn N es) (h0 : d s = 0) (k : Nat) : ∀ v, Tw es s d K k v → d v ≤ 1000000 * (rk N d (d v) : Nat) := by
  induction k with
  | zero => intro v h; rw [show v = s from h, h0]; omega
  | succ k ih =>
    rintro v ⟨e, he, h1, h2, h3, h4⟩
    obtain ⟨a, b, c1, c2⟩ := hp.nat he
    have h5 := ih _ h4
    by_cases hc : e.2.2 = 0
    · rw [hc, Int.add_zero] at h3
      rw [← h3]; exact h5
    · have h6 := rk_lt (N := N) (d := d) a (show d e.1.toNat < d v by omega)
      omega
theorem tw_bound {N : Nat} {es : List E} {s : Nat} {d : Nat → Int} {K : Int} (hp : Qn N es) (h0 : d s = 0) {k v : Nat} (hv : v < N) (h : Tw es s d K k v) : d v ≤ 63000000 := by
  have h1 := tw_rk hp h0 k v h
  have h2 := rk_less (N := N) (d := d) hv
  have h3 := hp.n64
  omega
theorem tw_real {N : Nat} {es : List E} {s : Nat} {d : Nat → Int} {K : Int} (hp : Qn N es) (h0 : d s = 0) (hf : K < far) (k : Nat) : ∀ v, v < N → d v < far → Tw es s d K k v → Rc es (start s) k v (d v) := by
  induction k with
  | zero => intro v _ hv h; rw [show v = s from h] at hv ⊢; exact ⟨by rw [h0]; exact if_pos rfl, hv⟩
  | succ k ih =>
    rintro v _ hv ⟨e, he, h1, h2, h3, h4⟩
    refine ⟨hv, e, he, h1, ?_⟩
    rw [show d v - e.2.2 = d e.1.toNat by omega]
    exact ih _ (hp.nat he).1 (by omega) h4

/-- While it is looked for: k is the cost up to which all is done, qs is what waits. -/
structure Inv (N : Nat) (es : List E) (s : Nat) (K : Int) (d : Nat → Int) (qs : List (Int × Int)) (ex : Nat → Prop) : Prop where
  s0 : d s = 0
  lo : ∀ v, v < N → 0 ≤ d v
  hi : ∀ v, v < N → d v ≤ far
  sup : ∀ v, v < N → d v < far → ∃ k, Tw es s d K k v
  keys : ∀ q ∈ qs, 0 ≤ q.2 ∧ q.2.toNat < N ∧ d q.2.toNat ≤ q.1 ∧ K ≤ q.1 ∧ q.1 < far
  done : ∀ v, v < N → d v < far → ((d v, (v : Int)) ∈ qs ∨ ex v ∨ ∀ e ∈ es, e.1.toNat = v → d e.2.1.toNat ≤ d v + e.2.2)
  k0 : 0 ≤ K
  kf : K < far
theorem Inv.perm {N : Nat} {es : List E} {s : Nat} {K : Int} {d : Nat → Int} {qs rs : List (Int × Int)} {ex : Nat → Prop} (h : Inv N es s K d qs ex) (hp : rs.Perm qs) : Inv N es s K d rs ex :=
  ⟨h.s0, h.lo, h.hi, h.sup, fun q hq => h.keys q (hp.mem_iff.1 hq), fun v hv hf => (h.done v hv hf).imp_left (fun hm => hp.mem_iff.2 hm), h.k0, h.kf⟩
theorem inv_start {N : Nat} {es : List E} {s : Nat} (hs : s < N) : Inv N es s 0 (start s) [(0, (s : Int))] (fun _ => False) := by
  refine ⟨if_pos rfl, fun v _ => ?_, fun v _ => ?_, fun v _ hf => ?_, fun q hq => ?_, fun v _ hf => ?_, Int.le_refl _, by decide⟩
  · unfold start; split <;> decide
  · unfold start; split <;> decide
  · by_cases e : v = s
    · exact ⟨0, e⟩
    · unfold start at hf; rw [if_neg e] at hf; exact absurd hf (by decide)
  · rw [List.mem_singleton.1 hq]
    refine ⟨by simp, by simpa using hs, ?_, Int.le_refl _, by show (0 : Int) < far; decide⟩
    simp [start]
  · by_cases e : v = s
    · subst e; exact .inl (by simp [start])
    · unfold start at hf; rw [if_neg e] at hf; exact absurd hf (by decide)
/-- The least is taken out, and counts no longer. -/
theorem inv_skip {N : Nat} {es : List E} {s : Nat} {K : Int} {d : Nat → Int} {p : Int × Int} {rs : List (Int × Int)} (h : Inv N es s K d (p :: rs) (fun _ => False)) (hmin : ∀ q ∈ rs, p.1 ≤ q.1) (hlt : d p.2.toNat < p.1) :
    Inv N es s p.1 d rs (fun _ => False) := by
  obtain ⟨a, b, c, e, hf⟩ := h.keys p (by simp)
  refine ⟨h.s0, h.lo, h.hi, fun v hv hf => ?_, fun q hq => ?_, fun v hv hf => ?_, by have := h.k0; omega, hf⟩
  · obtain ⟨k, hk⟩ := h.sup v hv hf
    exact ⟨k, tw_more e k v hk⟩
  · obtain ⟨a1, b1, c1, e1, f1⟩ := h.keys q (List.mem_cons_of_mem _ hq)
    exact ⟨a1, b1, c1, hmin q hq, f1⟩
  · rcases h.done v hv hf with hm | hm
    · rcases List.mem_cons.1 hm with hm | hm
      · rw [← hm] at hlt
        simp at hlt
      · exact .inl hm
    · exact .inr hm
/-- The least is taken out, and its edges are looked at: the first i of them are. -/
theorem inv_take {N : Nat} {es : List E} {s : Nat} {K : Int} {d : Nat → Int} {p : Int × Int} {rs : List (Int × Int)} (h : Inv N es s K d (p :: rs) (fun _ => False)) (hmin : ∀ q ∈ rs, p.1 ≤ q.1) (heq : ¬ d p.2.toNat < p.1) :
    Inv N es s p.1 d rs (fun v => v = p.2.toNat) ∧ d p.2.toNat = p.1 := by
  obtain ⟨a, b, c, e, hf⟩ := h.keys p (by simp)
  refine ⟨⟨h.s0, h.lo, h.hi, fun v hv hf => ?_, fun q hq => ?_, fun v hv hf => ?_, by have := h.k0; omega, hf⟩, by omega⟩
  · obtain ⟨k, hk⟩ := h.sup v hv hf
    exact ⟨k, tw_more e k v hk⟩
  · obtain ⟨a1, b1, c1, e1, f1⟩ := h.keys q (List.mem_cons_of_mem _ hq)
    exact ⟨a1, b1, c1, hmin q hq, f1⟩
  · rcases h.done v hv hf with hm | hm | hm
    · rcases List.mem_cons.1 hm with hm | hm
      · refine .inr (.inl ?_)
        rw [← hm]; simp
      · exact .inl hm
    · exact hm.elim
    · exact .inr (.inr hm)
def Rels (es : List E) (d : Nat → Int) (v : Nat) (i : Nat) : Prop := ∀ j, j < i → (at3 es j).1.toNat = v → d (at3 es j).2.1.toNat ≤ d v + (at3 es j).2.2
/-- One edge more is looked at: nothing turns. -/
theorem rels_same {es : List E} {d : Nat → Int} {v i : Nat} (h : Rels es d v i) (hno : (at3 es i).1.toNat = v → d (at3 es i).2.1.toNat ≤ d v + (at3 es i).2.2) : Rels es d v (i + 1) := by
  intro j hj hv
  rcases (show j < i ∨ j = i by omega) with h1 | rfl
  · exact h j h1 hv
  · exact hno hv
/-- One edge more is looked at, and leads on for less. -/
theorem inv_push {N : Nat} {es : List E} {s : Nat} {K : Int} {d : Nat → Int} {qs : List (Int × Int)} {v i y : Nat} {c : Int} {e : E} (hp : Qn N es) (h : Inv N es s K d qs (fun x => x = v)) (hv : d v = K) (he : e ∈ es) (hi : i < es.length) (hei : at3 es i = e) (hev : e.1.toNat = v) (hy : e.2.1.toNat = y) (hc : e.2.2 = c) (hr : Rels es d v i) (hlt : K + c < d y) :
    Inv N es s K (upd d y (K + c)) (qs ++ [(K + c, (y : Int))]) (fun x => x = v) ∧ upd d y (K + c) v = K ∧ Rels es (upd d y (K + c)) v (i + 1) := by
  obtain ⟨a, b, c1, c2⟩ := hp.nat he
  rw [hev] at a
  rw [hy] at b
  rw [hc] at c1 c2
  have hk0 := h.k0
  have hys : y ≠ s := fun e => by rw [e, h.s0] at hlt; omega
  have hvy : v ≠ y := fun e => by rw [← e, hv] at hlt; omega
  have hle : ∀ x, upd d y (K + c) x ≤ d x := fun x => by
    by_cases ex : x = y
    · rw [ex, upd_same]; omega
    · rw [upd_other _ _ ex]; exact Int.le_refl _
  have hhi := h.hi y b
  refine ⟨⟨by rw [upd_other _ _ (Ne.symm hys)]; exact h.s0, fun x hx => ?_, fun x hx => Int.le_trans (hle x) (h.hi x hx), fun x hx hf => ?_, fun q hq => ?_, fun x hx hf => ?_, hk0, h.kf⟩, by rw [upd_other _ _ hvy]; exact hv, fun j hj hjv => ?_⟩
  · by_cases ex : x = y
    · rw [ex, upd_same]; omega
    · rw [upd_other _ _ ex]; exact h.lo x hx
  · have hKy : K < d y := by omega
    by_cases ex : x = y
    · subst ex
      obtain ⟨k, hk⟩ := h.sup v a (by rw [hv]; exact h.kf)
      exact ⟨k + 1, e, he, hy, by rw [hev, upd_other _ _ hvy, hv]; exact Int.le_refl _, by rw [hev, upd_other _ _ hvy, hv, upd_same, hc], by rw [hev]; exact tw_upd hKy k v hvy hk⟩
    · rw [upd_other _ _ ex] at hf
      obtain ⟨k, hk⟩ := h.sup x hx hf
      exact ⟨k, tw_upd hKy k x ex hk⟩
  · rcases List.mem_append.1 hq with hq | hq
    · obtain ⟨q1, q2, q3, q4, q5⟩ := h.keys q hq
      exact ⟨q1, q2, Int.le_trans (hle _) q3, q4, q5⟩
    · rw [List.mem_singleton.1 hq]
      refine ⟨by simp, by simpa using b, ?_, by show K ≤ K + c; omega, by show K + c < far; omega⟩
      simp [upd_same]
  · by_cases ex : x = y
    · subst ex
      rw [upd_same]
      exact .inl (by simp)
    · rw [upd_other _ _ ex] at hf ⊢
      rcases h.done x hx hf with hm | hm | hm
      · exact .inl (by simp [hm])
      · exact .inr (.inl hm)
      · exact .inr (.inr (fun z hz hzx => Int.le_trans (hle _) (hm z hz hzx)))
  · rw [upd_other _ _ hvy]
    rcases (show j < i ∨ j = i by omega) with h1 | rfl
    · exact Int.le_trans (hle _) (hr j h1 hjv)
    · rw [hei, hy, upd_same, hc, hv]; exact Int.le_refl _
/-- All edges are looked at. -/
theorem inv_done {N : Nat} {es : List E} {s : Nat} {K : Int} {d : Nat → Int} {qs : List (Int × Int)} {v : Nat} (h : Inv N es s K d qs (fun x => x = v)) (hr : Rels es d v es.length) : Inv N es s K d qs (fun _ => False) := by
  refine ⟨h.s0, h.lo, h.hi, h.sup, h.keys, fun x hx hf => ?_, h.k0, h.kf⟩
  rcases h.done x hx hf with hm | rfl | hm
  · exact .inl hm
  · refine .inr (.inr (fun e he hev => ?_))
    obtain ⟨j, hj, rfl⟩ := List.mem_iff_getElem.1 he
    have e3 : at3 es j = es[j] := by unfold at3; simp [hj]
    have := hr j hj (by rw [e3]; exact hev)
    rwa [e3] at this
  · exact .inr (.inr hm)
/-- Nothing waits any longer. -/
theorem inv_end {N : Nat} {es : List E} {s : Nat} {K : Int} {d : Nat → Int} (hp : Qn N es) (h : Inv N es s K d [] (fun _ => False)) : Ls N es (start s) d := by
  refine ⟨h.hi, fun v hv => ?_, fun e he hf => ?_, fun v hv hf => ?_⟩
  · unfold start
    split
    · rename_i e; rw [e, h.s0]; exact Int.le_refl _
    · exact h.hi v hv
  · obtain ⟨a, b, _⟩ := hp.nat he
    rcases h.done _ a hf with hm | hm | hm
    · simp at hm
    · exact hm.elim
    · exact hm e he rfl
  · obtain ⟨k, hk⟩ := h.sup v hv hf
    exact ⟨k, tw_real hp h.s0 h.kf k v hv hf hk⟩
/-- How much there is still to lose. -/
def phi : Nat → (Nat → Int) → Nat
  | 0, _ => 0
  | n + 1, d => phi n d + (min (d n) 70000000).toNat
theorem phi_le (n : Nat) (d : Nat → Int) : phi n d ≤ n * 70000000 := by
  induction n with
  | zero => simp [phi]
  | succ n ih => rw [phi]; omega
theorem phi_same (n : Nat) (d : Nat → Int) (y : Nat) (x : Int) (h : n ≤ y) : phi n (upd d y x) = phi n d := by
  induction n with
  | zero => rfl
  | succ n ih => rw [phi, phi, ih (by omega), upd_other _ _ (by omega)]
theorem phi_upd {n : Nat} {d : Nat → Int} {y : Nat} {x : Int} (hy : y < n) (h0 : 0 ≤ x) (h7 : x < 70000000) (hlt : x < d y) : phi n (upd d y x) + 1 ≤ phi n d := by
  induction n with
  | zero => omega
  | succ n ih =>
    rw [phi, phi]
    by_cases e : y = n
    · subst e
      rw [phi_same _ _ _ _ (Nat.le_refl _), upd_same]
      omega
    · rw [upd_other _ _ (fun h => e h.symm)]
      have := ih (by omega)
      omega
theorem Inv.key {N : Nat} {es : List E} {s : Nat} {K : Int} {d : Nat → Int} {qs : List (Int × Int)} {ex : Nat → Prop} (hp : Qn N es) (h : Inv N es s K d qs ex) {v : Nat} (hv : v < N) (hk : d v = K) : K ≤ 64000000 := by
  obtain ⟨k, hw⟩ := h.sup v hv (by have := h.kf; omega)
  have := tw_bound hp h.s0 hv hw
  omega
end Go.Proofs.Ytdgihpegdcoilaa.Zm
