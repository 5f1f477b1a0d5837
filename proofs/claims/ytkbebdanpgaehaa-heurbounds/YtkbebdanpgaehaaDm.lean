/-
  Plain costs from one place: what they are, that they are one, how they are found. No Go in sight.
-/
import Derived.Test.YtkbebdanpgaehaaWm
namespace Go.Proofs.Ytkbebdanpgaehaa.Dm
open Nm Wm
set_option linter.unusedSimpArgs false

/-- A right net of costs above 0. -/
structure Pn (N : Nat) (es : List E) : Prop where
  n1 : 1 ≤ N
  n64 : N ≤ 64
  len : es.length ≤ 600
  ok : ∀ e ∈ es, 0 ≤ e.1 ∧ e.1 < N ∧ 0 ≤ e.2.1 ∧ e.2.1 < N ∧ 1 ≤ e.2.2 ∧ e.2.2 ≤ 10000
theorem pn_of {n : Int} {es : List E} (h : nps n es = 0) : Gn n es ∧ Pn n.toNat es ∧ ((n.toNat : Nat) : Int) = n := by
  have h0 : nck n es = 0 := by
    by_cases h0 : nck n es = 0
    · exact h0
    · rw [nps_bad h0] at h; exact absurd h h0
  have hg := nck_zero.1 h0
  unfold nps at h
  rw [if_neg (by simp [h0])] at h
  split at h
  · rename_i hall
    have hn : ((n.toNat : Nat) : Int) = n := by have := hg.n1; omega
    refine ⟨hg, ⟨by have := hg.n1; omega, by have := hg.n64; omega, hg.len, fun e he => ?_⟩, hn⟩
    have h1 := hg.ok e he
    have h2 := of_decide_eq_true (List.all_eq_true.1 hall e he)
    rw [hn]
    omega
  · cases h
theorem Pn.nat {N : Nat} {es : List E} (h : Pn N es) {e : E} (he : e ∈ es) : e.1.toNat < N ∧ e.2.1.toNat < N ∧ 1 ≤ e.2.2 ∧ e.2.2 ≤ 10000 := by
  have := h.ok e he; omega

def upd (d : Nat → Int) (y : Nat) (x : Int) : Nat → Int := fun i => if i = y then x else d i
theorem upd_same (d : Nat → Int) (y : Nat) (x : Int) : upd d y x y = x := if_pos rfl
theorem upd_other (d : Nat → Int) {y i : Nat} (x : Int) (h : i ≠ y) : upd d y x i = d i := if_neg h

def cntf : Nat → (Nat → Bool) → Nat
  | 0, _ => 0
  | n + 1, p => cntf n p + if p n then 1 else 0
theorem cntf_le (n : Nat) (p : Nat → Bool) : cntf n p ≤ n := by
  induction n with
  | zero => simp [cntf]
  | succ n ih => rw [cntf]; split <;> omega
theorem cntf_mono (n : Nat) (p q : Nat → Bool) (h : ∀ i, i < n → p i = true → q i = true) : cntf n p ≤ cntf n q := by
  induction n with
  | zero => simp [cntf]
  | succ n ih =>
    rw [cntf, cntf]
    have := ih (fun i hi => h i (by omega))
    by_cases hp : p n = true
    · rw [if_pos hp, if_pos (h n (by omega) hp)]; omega
    · rw [if_neg hp]; omega
theorem cntf_lt (n : Nat) (p q : Nat → Bool) (h : ∀ i, i < n → p i = true → q i = true) (u : Nat) (hu : u < n) (hq : q u = true) (hp : p u = false) : cntf n p + 1 ≤ cntf n q := by
  induction n with
  | zero => omega
  | succ n ih =>
    rw [cntf, cntf]
    by_cases e : u = n
    · subst e
      have := cntf_mono u p q (fun i hi => h i (by omega))
      rw [if_pos hq, if_neg (by simp [hp])]; omega
    · have := ih (fun i hi => h i (by omega)) (by omega)
      by_cases hpn : p n = true
      · rw [if_pos hpn, if_pos (h n (by omega) hpn)]; omega
      · rw [if_neg hpn]; omega
/-- How many cost less than x. -/
def rk (N : Nat) (d : Nat → Int) (x : Int) : Nat := cntf N (fun i => decide (d i < x))
theorem rk_lt {N : Nat} {d : Nat → Int} {u : Nat} {x : Int} (hu : u < N) (h : d u < x) : rk N d (d u) + 1 ≤ rk N d x := by
  refine cntf_lt N _ _ (fun i _ hi => ?_) u hu (by simp [h]) (by simp)
  have := of_decide_eq_true hi
  exact decide_eq_true (by omega)
theorem rk_less {N : Nat} {d : Nat → Int} {v : Nat} (hv : v < N) : rk N d (d v) + 1 ≤ N := by
  have h1 := cntf_lt N (fun i => decide (d i < d v)) (fun _ => true) (fun _ _ _ => rfl) v hv rfl (by simp)
  have h2 := cntf_le N (fun _ => true)
  unfold rk; omega

/-- Each cost but the first's is had over an edge. -/
def Sup (N : Nat) (es : List E) (s : Nat) (d : Nat → Int) : Prop := ∀ v, v < N → v ≠ s → d v < far → ∃ e ∈ es, e.2.1.toNat = v ∧ d e.1.toNat < far ∧ d e.1.toNat + e.2.2 = d v
theorem sup_rk {N : Nat} {es : List E} {s : Nat} {d : Nat → Int} (hp : Pn N es) (h0 : d s = 0) (hlo : ∀ v, v < N → 0 ≤ d v) (hs : Sup N es s d) : ∀ v, v < N → d v < far → d v ≤ 10000 * (rk N d (d v) : Nat) := by
  suffices h : ∀ m : Nat, ∀ v, v < N → (d v).toNat ≤ m → d v < far → d v ≤ 10000 * (rk N d (d v) : Nat) from fun v hv hf => h _ v hv (Nat.le_refl _) hf
  intro m
  induction m with
  | zero => intro v hv hm hf; have := hlo v hv; omega
  | succ m ih =>
    intro v hv hm hf
    by_cases e : v = s
    · subst e; rw [h0]; omega
    · obtain ⟨x, hx, hxv, hxf, heq⟩ := hs v hv e hf
      obtain ⟨a, b, c1, c2⟩ := hp.nat hx
      have h1 := ih x.1.toNat a (by have := hlo v hv; have := hlo _ a; omega) hxf
      have h2 := rk_lt (N := N) (d := d) a (show d x.1.toNat < d v by omega)
      omega
theorem sup_bound {N : Nat} {es : List E} {s : Nat} {d : Nat → Int} (hp : Pn N es) (h0 : d s = 0) (hlo : ∀ v, v < N → 0 ≤ d v) (hs : Sup N es s d) {v : Nat} (hv : v < N) (hf : d v < far) : d v ≤ 640000 := by
  have h1 := sup_rk hp h0 hlo hs v hv hf
  have h2 := rk_less (N := N) (d := d) hv
  have h3 := hp.n64
  omega

/-- What it costs from s. -/
structure IsD (N : Nat) (es : List E) (s : Nat) (d : Nat → Int) : Prop where
  s0 : d s = 0
  lo : ∀ v, v < N → 0 ≤ d v
  hi : ∀ v, v < N → d v ≤ far
  rel : ∀ e ∈ es, d e.1.toNat < far → d e.2.1.toNat ≤ d e.1.toNat + e.2.2
  sup : Sup N es s d
theorem IsD.bound {N : Nat} {es : List E} {s : Nat} {d : Nat → Int} (h : IsD N es s d) (hp : Pn N es) {v : Nat} (hv : v < N) (hf : d v < far) : d v ≤ 640000 := sup_bound hp h.s0 h.lo h.sup hv hf
theorem IsD.le {N : Nat} {es : List E} {s : Nat} {d d' : Nat → Int} (hp : Pn N es) (h : IsD N es s d) (h' : IsD N es s d') : ∀ v, v < N → d v ≤ d' v := by
  have hF : far = 1099511627776 := rfl
  suffices hh : ∀ m : Nat, ∀ v, v < N → (d' v).toNat ≤ m → d v ≤ d' v from fun v hv => hh _ v hv (Nat.le_refl _)
  intro m
  induction m with
  | zero =>
    intro v hv hm
    have h0 := h'.lo v hv
    by_cases e : v = s
    · subst e; rw [h.s0, h'.s0]; exact Int.le_refl _
    · obtain ⟨x, hx, hxv, hxf, heq⟩ := h'.sup v hv e (by omega)
      obtain ⟨a, b, c1, c2⟩ := hp.nat hx
      have := h'.lo _ a
      omega
  | succ m ih =>
    intro v hv hm
    by_cases e : v = s
    · subst e; rw [h.s0, h'.s0]; exact Int.le_refl _
    · by_cases hf : d' v < far
      · obtain ⟨x, hx, hxv, hxf, heq⟩ := h'.sup v hv e hf
        obtain ⟨a, b, c1, c2⟩ := hp.nat hx
        have h1 := ih x.1.toNat a (by have := h'.lo _ a; have := h'.lo v hv; omega)
        have h2 := h.rel x hx (by omega)
        rw [hxv] at h2
        omega
      · have := h.hi v hv; have := h'.hi v hv; omega
theorem IsD.eq {N : Nat} {es : List E} {s : Nat} {d d' : Nat → Int} (hp : Pn N es) (h : IsD N es s d) (h' : IsD N es s d') {v : Nat} (hv : v < N) : d v = d' v := by
  have := h.le hp h' v hv
  have := h'.le hp h v hv
  omega
theorem IsD.congr {N : Nat} {es : List E} {s : Nat} {d d' : Nat → Int} (hp : Pn N es) (h : IsD N es s d) (hs : s < N) (he : ∀ v, v < N → d v = d' v) : IsD N es s d' := by
  refine ⟨by rw [← he s hs]; exact h.s0, fun v hv => by rw [← he v hv]; exact h.lo v hv, fun v hv => by rw [← he v hv]; exact h.hi v hv, fun e hm => ?_, fun v hv hne hf => ?_⟩
  · obtain ⟨a, b, _⟩ := hp.nat hm
    rw [← he _ a, ← he _ b]; exact h.rel e hm
  · rw [← he v hv] at hf
    obtain ⟨x, hx, hxv, hxf, heq⟩ := h.sup v hv hne hf
    obtain ⟨a, b, _⟩ := hp.nat hx
    exact ⟨x, hx, hxv, by rw [← he _ a]; exact hxf, by rw [← he _ a, ← he v hv]; exact heq⟩

/-- While it is looked for: k is the cost up to which all is done, qs is what waits. -/
structure Inv (N : Nat) (es : List E) (s : Nat) (K : Int) (d : Nat → Int) (qs : List (Int × Int)) (ex : Nat → Prop) : Prop where
  s0 : d s = 0
  lo : ∀ v, v < N → 0 ≤ d v
  hi : ∀ v, v < N → d v ≤ far
  sup : ∀ v, v < N → v ≠ s → d v < far → ∃ e ∈ es, e.2.1.toNat = v ∧ d e.1.toNat ≤ K ∧ d e.1.toNat + e.2.2 = d v
  keys : ∀ q ∈ qs, 0 ≤ q.2 ∧ q.2.toNat < N ∧ d q.2.toNat ≤ q.1 ∧ K ≤ q.1 ∧ q.1 < far
  done : ∀ v, v < N → d v < far → ((d v, (v : Int)) ∈ qs ∨ ex v ∨ ∀ e ∈ es, e.1.toNat = v → d e.2.1.toNat ≤ d v + e.2.2)
  k0 : 0 ≤ K
  kf : K < far
theorem Inv.perm {N : Nat} {es : List E} {s : Nat} {K : Int} {d : Nat → Int} {qs rs : List (Int × Int)} {ex : Nat → Prop} (h : Inv N es s K d qs ex) (hp : rs.Perm qs) : Inv N es s K d rs ex :=
  ⟨h.s0, h.lo, h.hi, h.sup, fun q hq => h.keys q (hp.mem_iff.1 hq), fun v hv hf => (h.done v hv hf).imp_left (fun hm => hp.mem_iff.2 hm), h.k0, h.kf⟩
theorem Inv.sup' {N : Nat} {es : List E} {s : Nat} {K : Int} {d : Nat → Int} {qs : List (Int × Int)} {ex : Nat → Prop} (h : Inv N es s K d qs ex) : Sup N es s d := by
  intro v hv hne hf
  obtain ⟨e, he, h1, h2, h3⟩ := h.sup v hv hne hf
  exact ⟨e, he, h1, by have := h.kf; omega, h3⟩
def start (s : Nat) : Nat → Int := fun i => if i = s then 0 else far
theorem inv_start {N : Nat} {es : List E} {s : Nat} (hs : s < N) : Inv N es s 0 (start s) [(0, (s : Int))] (fun _ => False) := by
  refine ⟨if_pos rfl, fun v _ => ?_, fun v _ => ?_, fun v _ hne hf => ?_, fun q hq => ?_, fun v _ hf => ?_, Int.le_refl _, by decide⟩
  · unfold start; split <;> decide
  · unfold start; split <;> decide
  · unfold start at hf; rw [if_neg hne] at hf; exact absurd hf (by decide)
  · rw [List.mem_singleton.1 hq]
    refine ⟨by simp, by simpa using hs, ?_, Int.le_refl _, by show (0 : Int) < far; decide⟩
    simp [start]
  · by_cases e : v = s
    · subst e; exact .inl (by simp [start])
    · unfold start at hf; rw [if_neg e] at hf; exact absurd hf (by decide)
/-- The least is taken out, and counts no longer. -/
theorem inv_skip {N : Nat} {es : List E} {s : Nat} {K : Int} {d : Nat → Int} {p : Int × Int} {rs : List (Int × Int)} (h : Inv N es s K d (p :: rs) (fun _ => False)) (hmin : ∀ q ∈ rs, p.1 ≤ q.1) (hlt : d p.2.toNat < p.1) :
    Inv N es s p.1 d rs (fun _ => False) := by
  obtain ⟨a, b, c, e, hf⟩ := h.keys p (by simp)
  refine ⟨h.s0, h.lo, h.hi, fun v hv hne hf => ?_, fun q hq => ?_, fun v hv hf => ?_, by have := h.k0; omega, hf⟩
  · obtain ⟨x, hx, h1, h2, h3⟩ := h.sup v hv hne hf
    exact ⟨x, hx, h1, by omega, h3⟩
  · obtain ⟨a1, b1, c1, e1, f1⟩ := h.keys q (List.mem_cons_of_mem _ hq)
    exact ⟨a1, b1, c1, hmin q hq, f1⟩
  · rcases h.done v hv hf with hm | hm
    · rcases List.mem_cons.1 hm with hm | hm
      · rw [← hm] at hlt
        simp at hlt
      · exact .inl hm
    · exact .inr hm
/-- The least is taken out, and its edges are looked at: the first i of them are. -/
theorem inv_take {N : Nat} {es : List E} {s : Nat} {K : Int} {d : Nat → Int} {p : Int × Int} {rs : List (Int × Int)} (h : Inv N es s K d (p :: rs) (fun _ => False)) (hmin : ∀ q ∈ rs, p.1 ≤ q.1) (heq : ¬ d p.2.toNat < p.1) :
    Inv N es s p.1 d rs (fun v => v = p.2.toNat) ∧ d p.2.toNat = p.1 := by
  obtain ⟨a, b, c, e, hf⟩ := h.keys p (by simp)
  refine ⟨⟨h.s0, h.lo, h.hi, fun v hv hne hf => ?_, fun q hq => ?_, fun v hv hf => ?_, by have := h.k0; omega, hf⟩, by omega⟩
  · obtain ⟨x, hx, h1, h2, h3⟩ := h.sup v hv hne hf
    exact ⟨x, hx, h1, by omega, h3⟩
  · obtain ⟨a1, b1, c1, e1, f1⟩ := h.keys q (List.mem_cons_of_mem _ hq)
    exact ⟨a1, b1, c1, hmin q hq, f1⟩
  · rcases h.done v hv hf with hm | hm | hm
    · rcases List.mem_cons.1 hm with hm | hm
      · refine .inr (.inl ?_)
        rw [← hm]; simp
      · exact .inl hm
    · exact hm.elim
    · exact .inr (.inr hm)
def Rels (es : List E) (d : Nat → Int) (v : Nat) (i : Nat) : Prop := ∀ j, j < i → (at3 es j).1.toNat = v → d (at3 es j).2.1.toNat ≤ d v + (at3 es j).2.2
/-- One edge more is looked at: nothing turns. -/
theorem rels_same {es : List E} {d : Nat → Int} {v i : Nat} (h : Rels es d v i) (hno : (at3 es i).1.toNat = v → d (at3 es i).2.1.toNat ≤ d v + (at3 es i).2.2) : Rels es d v (i + 1) := by
  intro j hj hv
  rcases (show j < i ∨ j = i by omega) with h1 | rfl
  · exact h j h1 hv
  · exact hno hv
/-- One edge more is looked at, and leads on for less. -/
theorem inv_push {N : Nat} {es : List E} {s : Nat} {K : Int} {d : Nat → Int} {qs : List (Int × Int)} {v i y : Nat} {c : Int} {e : E} (hp : Pn N es) (h : Inv N es s K d qs (fun x => x = v)) (hv : d v = K) (he : e ∈ es) (hi : i < es.length) (hei : at3 es i = e) (hev : e.1.toNat = v) (hy : e.2.1.toNat = y) (hc : e.2.2 = c) (hr : Rels es d v i) (hlt : K + c < d y) :
    Inv N es s K (upd d y (K + c)) (qs ++ [(K + c, (y : Int))]) (fun x => x = v) ∧ upd d y (K + c) v = K ∧ Rels es (upd d y (K + c)) v (i + 1) := by
  obtain ⟨a, b, c1, c2⟩ := hp.nat he
  rw [hev] at a
  rw [hy] at b
  rw [hc] at c1 c2
  have hk0 := h.k0
  have hys : y ≠ s := fun e => by rw [e, h.s0] at hlt; omega
  have hvy : v ≠ y := fun e => by rw [← e, hv] at hlt; omega
  have hle : ∀ x, upd d y (K + c) x ≤ d x := fun x => by
    by_cases ex : x = y
    · rw [ex, upd_same]; omega
    · rw [upd_other _ _ ex]; exact Int.le_refl _
  have hhi := h.hi y b
  refine ⟨⟨by rw [upd_other _ _ (Ne.symm hys)]; exact h.s0, fun x hx => ?_, fun x hx => Int.le_trans (hle x) (h.hi x hx), fun x hx hne hf => ?_, fun q hq => ?_, fun x hx hf => ?_, hk0, h.kf⟩, by rw [upd_other _ _ hvy]; exact hv, fun j hj hjv => ?_⟩
  · by_cases ex : x = y
    · rw [ex, upd_same]; omega
    · rw [upd_other _ _ ex]; exact h.lo x hx
  · by_cases ex : x = y
    · subst ex
      exact ⟨e, he, hy, by rw [hev, upd_other _ _ hvy, hv]; exact Int.le_refl _, by rw [hev, upd_other _ _ hvy, hv, upd_same, hc]⟩
    · rw [upd_other _ _ ex] at hf ⊢
      obtain ⟨z, hz, h1, h2, h3⟩ := h.sup x hx hne hf
      have hzy : z.1.toNat ≠ y := fun e => by rw [e] at h2; omega
      exact ⟨z, hz, h1, by rw [upd_other _ _ hzy]; exact h2, by rw [upd_other _ _ hzy]; exact h3⟩
  · rcases List.mem_append.1 hq with hq | hq
    · obtain ⟨q1, q2, q3, q4, q5⟩ := h.keys q hq
      exact ⟨q1, q2, Int.le_trans (hle _) q3, q4, q5⟩
    · rw [List.mem_singleton.1 hq]
      refine ⟨by simp, by simpa using b, ?_, by show K ≤ K + c; omega, by show K + c < far; omega⟩
      simp [upd_same]
  · by_cases ex : x = y
    · subst ex
      rw [upd_same]
      exact .inl (by simp)
    · rw [upd_other _ _ ex] at hf ⊢
      rcases h.done x hx hf with hm | hm | hm
      · exact .inl (by simp [hm])
      · exact .inr (.inl hm)
      · exact .inr (.inr (fun z hz hzx => Int.le_trans (hle _) (hm z hz hzx)))
  · rw [upd_other _ _ hvy]
    rcases (show j < i ∨ j = i by omega) with h1 | rfl
    · exact Int.le_trans (hle _) (hr j h1 hjv)
    · rw [hei, hy, upd_same, hc, hv]; exact Int.le_refl _
/-- All edges are looked at. -/
theorem inv_done {N : Nat} {es : List E} {s : Nat} {K : Int} {d : Nat → Int} {qs : List (Int × Int)} {v : Nat} (h : Inv N es s K d qs (fun x => x = v)) (hr : Rels es d v es.length) : Inv N es s K d qs (fun _ => False) := by
  refine ⟨h.s0, h.lo, h.hi, h.sup, h.keys, fun x hx hf => ?_, h.k0, h.kf⟩
  rcases h.done x hx hf with hm | rfl | hm
  · exact .inl hm
  · refine .inr (.inr (fun e he hev => ?_))
    obtain ⟨j, hj, rfl⟩ := List.mem_iff_getElem.1 he
    have e3 : at3 es j = es[j] := by unfold at3; simp [hj]
    have := hr j hj (by rw [e3]; exact hev)
    rwa [e3] at this
  · exact .inr (.inr hm)
/-- Nothing waits any longer. -/
theorem inv_end {N : Nat} {es : List E} {s : Nat} {K : Int} {d : Nat → Int} (hp : Pn N es) (h : Inv N es s K d [] (fun _ => False)) : IsD N es s d := by
  refine ⟨h.s0, h.lo, h.hi, fun e he hf => ?_, h.sup'⟩
  obtain ⟨a, b, _⟩ := hp.nat he
  rcases h.done _ a hf with hm | hm | hm
  · simp at hm
  · exact hm.elim
  · exact hm e he rfl
/-- How much there is still to lose. -/
def phi : Nat → (Nat → Int) → Nat
  | 0, _ => 0
  | n + 1, d => phi n d + (min (d n) 700000).toNat
theorem phi_le (n : Nat) (d : Nat → Int) : phi n d ≤ n * 700000 := by
  induction n with
  | zero => simp [phi]
  | succ n ih => rw [phi]; omega
theorem phi_same (n : Nat) (d : Nat → Int) (y : Nat) (x : Int) (h : n ≤ y) : phi n (upd d y x) = phi n d := by
  induction n with
  | zero => rfl
  | succ n ih => rw [phi, phi, ih (by omega), upd_other _ _ (by omega)]
theorem phi_upd {n : Nat} {d : Nat → Int} {y : Nat} {x : Int} (hy : y < n) (h0 : 0 ≤ x) (h7 : x < 700000) (hlt : x < d y) : phi n (upd d y x) + 1 ≤ phi n d := by
  induction n with
  | zero => omega
  | succ n ih =>
    rw [phi, phi]
    by_cases e : y = n
    · subst e
      rw [phi_same _ _ _ _ (Nat.le_refl _), upd_same]
      omega
    · rw [upd_other _ _ (fun h => e h.symm)]
      have := ih (by omega)
      omega
theorem Inv.key {N : Nat} {es : List E} {s : Nat} {K : Int} {d : Nat → Int} {qs : List (Int × Int)} {ex : Nat → Prop} (hp : Pn N es) (h : Inv N es s K d qs ex) {v : Nat} (hv : v < N) (hk : d v = K) : K ≤ 640000 := by
  have := sup_bound hp h.s0 h.lo h.sup' hv (by have := h.kf; omega)
  omega

/-- One round of the document's spreading: the first k edges are looked at. -/
def nx (d : Nat → Int) (es : List E) : Nat → Nat → Int
  | 0 => d
  | k + 1 => if d (at3 es k).1.toNat < far then upd (nx d es k) (at3 es k).2.1.toNat (min (nx d es k (at3 es k).2.1.toNat) (d (at3 es k).1.toNat + (at3 es k).2.2)) else nx d es k
theorem nx_yes {d : Nat → Int} {es : List E} {k : Nat} (h : d (at3 es k).1.toNat < far) : nx d es (k + 1) = upd (nx d es k) (at3 es k).2.1.toNat (min (nx d es k (at3 es k).2.1.toNat) (d (at3 es k).1.toNat + (at3 es k).2.2)) := by rw [nx, if_pos h]
theorem nx_no {d : Nat → Int} {es : List E} {k : Nat} (h : ¬ d (at3 es k).1.toNat < far) : nx d es (k + 1) = nx d es k := by rw [nx, if_neg h]
theorem nx_step (d : Nat → Int) (es : List E) (k v : Nat) : nx d es (k + 1) v ≤ nx d es k v := by
  by_cases h : d (at3 es k).1.toNat < far
  · rw [nx_yes h]
    by_cases e : v = (at3 es k).2.1.toNat
    · subst e; rw [upd_same]; omega
    · rw [upd_other _ _ e]; exact Int.le_refl _
  · rw [nx_no h]; exact Int.le_refl _
theorem nx_mono (d : Nat → Int) (es : List E) (v : Nat) {j k : Nat} (h : j ≤ k) : nx d es k v ≤ nx d es j v := by
  induction k with
  | zero => obtain rfl : j = 0 := by omega
            exact Int.le_refl _
  | succ k ih =>
    rcases (show j ≤ k ∨ j = k + 1 by omega) with h1 | rfl
    · exact Int.le_trans (nx_step d es k v) (ih h1)
    · exact Int.le_refl _
theorem nx_rel {d : Nat → Int} {es : List E} {e : E} (he : e ∈ es) (hf : d e.1.toNat < far) : nx d es es.length e.2.1.toNat ≤ d e.1.toNat + e.2.2 := by
  obtain ⟨j, hj, rfl⟩ := List.mem_iff_getElem.1 he
  have e3 : at3 es j = es[j] := by unfold at3; simp [hj]
  have h1 := nx_mono d es (es[j]).2.1.toNat (show j + 1 ≤ es.length by omega)
  refine Int.le_trans h1 ?_
  rw [nx_yes (by rw [e3]; exact hf), e3, upd_same]
  omega
theorem nx_from (d : Nat → Int) (es : List E) (k v : Nat) (hk : k ≤ es.length) : nx d es k v = d v ∨ ∃ e ∈ es, e.2.1.toNat = v ∧ d e.1.toNat < far ∧ nx d es k v = d e.1.toNat + e.2.2 := by
  induction k with
  | zero => exact .inl rfl
  | succ k ih =>
    have ih := ih (by omega)
    by_cases h : d (at3 es k).1.toNat < far
    · rw [nx_yes h]
      by_cases e : v = (at3 es k).2.1.toNat
      · subst e
        rw [upd_same]
        by_cases hm : nx d es k (at3 es k).2.1.toNat ≤ d (at3 es k).1.toNat + (at3 es k).2.2
        · rw [show min (nx d es k (at3 es k).2.1.toNat) (d (at3 es k).1.toNat + (at3 es k).2.2) = nx d es k (at3 es k).2.1.toNat by omega]
          exact ih
        · rw [show min (nx d es k (at3 es k).2.1.toNat) (d (at3 es k).1.toNat + (at3 es k).2.2) = d (at3 es k).1.toNat + (at3 es k).2.2 by omega]
          exact .inr ⟨at3 es k, mem_at (by omega), rfl, h, rfl⟩
      · rw [upd_other _ _ e]; exact ih
    · rw [nx_no h]; exact ih
/-- So many rounds. -/
def spr (es : List E) (d : Nat → Int) : Nat → Nat → Int
  | 0 => d
  | k + 1 => nx (spr es d k) es es.length
theorem nx_range {N : Nat} {es : List E} (hp : Pn N es) {d : Nat → Int} (h : ∀ v, v < N → 0 ≤ d v ∧ d v ≤ far) (k : Nat) (hk : k ≤ es.length) : ∀ v, v < N → 0 ≤ nx d es k v ∧ nx d es k v ≤ far := by
  intro v hv
  have h1 := nx_mono d es v (Nat.zero_le k)
  have h2 := h v hv
  have h3 : nx d es 0 v = d v := rfl
  rcases nx_from d es k v hk with h4 | ⟨e, he, _, _, h4⟩
  · omega
  · obtain ⟨a, _, c, _⟩ := hp.nat he
    have := h _ a
    omega
theorem spr_range {N : Nat} {es : List E} (hp : Pn N es) {d : Nat → Int} (h : ∀ v, v < N → 0 ≤ d v ∧ d v ≤ far) (k : Nat) : ∀ v, v < N → 0 ≤ spr es d k v ∧ spr es d k v ≤ far := by
  induction k with
  | zero => exact h
  | succ k ih => exact nx_range hp ih es.length (Nat.le_refl _)
theorem start_range (N s : Nat) : ∀ v, v < N → 0 ≤ start s v ∧ start s v ≤ far := by
  intro v _; unfold start; split <;> decide
theorem spr_ge {N : Nat} {es : List E} {s : Nat} {d : Nat → Int} (hp : Pn N es) (h : IsD N es s d) (k : Nat) : ∀ v, v < N → d v ≤ spr es (start s) k v := by
  induction k with
  | zero =>
    intro v hv
    show d v ≤ start s v
    unfold start
    split
    · rename_i e; rw [e, h.s0]; exact Int.le_refl _
    · exact h.hi v hv
  | succ k ih =>
    intro v hv
    show d v ≤ nx (spr es (start s) k) es es.length v
    rcases nx_from (spr es (start s) k) es es.length v (Nat.le_refl _) with h4 | ⟨e, he, h1, h2, h4⟩
    · rw [h4]; exact ih v hv
    · obtain ⟨a, _, c, _⟩ := hp.nat he
      have h5 := ih _ a
      have h6 := h.rel e he (by omega)
      rw [h1] at h6
      omega
theorem spr_zero (es : List E) (v k : Nat) : spr es (start v) k v ≤ 0 := by
  induction k with
  | zero => simp [spr, start]
  | succ k ih => exact Int.le_trans (nx_mono _ es v (Nat.zero_le _)) ih
theorem spr_le {N : Nat} {es : List E} {s : Nat} {d : Nat → Int} (hp : Pn N es) (h : IsD N es s d) (k : Nat) : ∀ v, v < N → rk N d (d v) ≤ k → spr es (start s) k v ≤ d v := by
  have hr := spr_range hp (start_range N s)
  induction k with
  | zero =>
    intro v hv hk
    show start s v ≤ d v
    by_cases e : v = s
    · subst e; rw [h.s0]; simp [start]
    · unfold start
      rw [if_neg e]
      by_cases hf : d v < far
      · obtain ⟨x, hx, h1, h2, h3⟩ := h.sup v hv e hf
        obtain ⟨a, _, c, _⟩ := hp.nat hx
        have := rk_lt (N := N) (d := d) a (show d x.1.toNat < d v by omega)
        omega
      · omega
  | succ k ih =>
    intro v hv hk
    by_cases hf : d v < far
    · by_cases e : v = s
      · subst e
        rw [h.s0]; exact spr_zero es v (k + 1)
      · obtain ⟨x, hx, h1, h2, h3⟩ := h.sup v hv e hf
        obtain ⟨a, _, c, _⟩ := hp.nat hx
        have h4 := rk_lt (N := N) (d := d) a (show d x.1.toNat < d v by omega)
        have h5 := ih _ a (by omega)
        have h6 := nx_rel (d := spr es (start s) k) hx (by omega)
        rw [h1] at h6
        show nx (spr es (start s) k) es es.length v ≤ d v
        omega
    · have := (hr (k + 1) v hv).2
      omega
theorem spr_is {N : Nat} {es : List E} {s : Nat} {d : Nat → Int} (hp : Pn N es) (h : IsD N es s d) : ∀ v, v < N → spr es (start s) (N - 1) v = d v := by
  intro v hv
  have h1 := spr_ge hp h (N - 1) v hv
  have h2 := spr_le hp h (N - 1) v hv (by have := rk_less (N := N) (d := d) hv; omega)
  omega

/-- Over a third place it costs no less. -/
theorem IsD.over {N : Nat} {es : List E} {s u : Nat} {d t : Nat → Int} (hp : Pn N es) (h : IsD N es s d) (h' : IsD N es u t) (hu : u < N) (hf : d u < far) : ∀ v, v < N → t v < far → d v ≤ d u + t v := by
  suffices hh : ∀ m : Nat, ∀ v, v < N → (t v).toNat ≤ m → t v < far → d v ≤ d u + t v from fun v hv => hh _ v hv (Nat.le_refl _)
  have hb := h.bound hp hu hf
  have hF : far = 1099511627776 := rfl
  intro m
  induction m with
  | zero =>
    intro v hv hm hv2
    have := h'.lo v hv
    by_cases e : v = u
    · subst e; omega
    · obtain ⟨x, hx, h1, h2, h3⟩ := h'.sup v hv e hv2
      obtain ⟨a, _, c, _⟩ := hp.nat hx
      have := h'.lo _ a
      omega
  | succ m ih =>
    intro v hv hm hv2
    by_cases e : v = u
    · subst e; rw [h'.s0]; omega
    · obtain ⟨x, hx, h1, h2, h3⟩ := h'.sup v hv e hv2
      obtain ⟨a, _, c, _⟩ := hp.nat hx
      have h4 := ih _ a (by have := h'.lo v hv; have := h'.lo _ a; omega) h2
      have h5 := h'.bound hp a h2
      have h6 := h.rel x hx (by omega)
      rw [h1] at h6
      omega
theorem pn_turn {N : Nat} {es : List E} (h : Pn N es) : Pn N (es.map trn) := by
  refine ⟨h.n1, h.n64, by simpa using h.len, fun e he => ?_⟩
  obtain ⟨x, hx, rfl⟩ := List.mem_map.1 he
  obtain ⟨a, b, c, d, e, f⟩ := h.ok x hx
  exact ⟨c, d, a, b, e, f⟩
theorem turn_turn (es : List E) : (es.map trn).map trn = es := by
  rw [List.map_map]
  have : (trn ∘ trn) = id := by funext ⟨a, b, c⟩; rfl
  rw [this, List.map_id]
theorem IsD.turn_le {N : Nat} {es : List E} {a b : Nat} {l m : Nat → Int} (hp : Pn N es) (h : IsD N es a l) (h' : IsD N (es.map trn) b m) : ∀ v, v < N → l v < far → m v < far → m a ≤ m v + l v ∧ m a < far := by
  suffices hh : ∀ k : Nat, ∀ v, v < N → (l v).toNat ≤ k → l v < far → m v < far → m a ≤ m v + l v ∧ m a < far from fun v hv => hh _ v hv (Nat.le_refl _)
  have hp' := pn_turn hp
  have hF : far = 1099511627776 := rfl
  intro k
  induction k with
  | zero =>
    intro v hv hk hf hm
    have := h.lo v hv
    by_cases e : v = a
    · subst e; omega
    · obtain ⟨x, hx, h1, h2, h3⟩ := h.sup v hv e hf
      obtain ⟨a, _, c, _⟩ := hp.nat hx
      have := h.lo _ a
      omega
  | succ k ih =>
    intro v hv hk hf hm
    by_cases e : v = a
    · subst e; rw [h.s0]; omega
    · obtain ⟨x, hx, h1, h2, h3⟩ := h.sup v hv e hf
      obtain ⟨q, _, c, c2⟩ := hp.nat hx
      have h4 := h'.rel (trn x) (List.mem_map.2 ⟨x, hx, rfl⟩)
      have e1 : (trn x).1 = x.2.1 := rfl
      have e2 : (trn x).2.1 = x.1 := rfl
      have e3 : (trn x).2.2 = x.2.2 := rfl
      rw [e1, e2, e3, h1] at h4
      have h5 := h4 hm
      have h6 := h'.bound hp' hv hm
      obtain ⟨h7, h8⟩ := ih _ q (by have := h.lo v hv; have := h.lo _ q; omega) h2 (by omega)
      exact ⟨by omega, h8⟩
theorem IsD.turn {N : Nat} {es : List E} {a b : Nat} {l m : Nat → Int} (hp : Pn N es) (ha : a < N) (hb : b < N) (h : IsD N es a l) (h' : IsD N (es.map trn) b m) : l b = m a := by
  have h'' : IsD N ((es.map trn).map trn) a l := by rw [turn_turn]; exact h
  have b0 : m b = 0 := h'.s0
  have a0 : l a = 0 := h.s0
  have l1 := h.hi b hb
  have l2 := h'.hi a ha
  have f0 : (0 : Int) < far := by decide
  by_cases hf : l b < far
  · obtain ⟨x1, x2⟩ := h.turn_le hp h' b hb hf (by omega)
    obtain ⟨y1, y2⟩ := h'.turn_le (pn_turn hp) h'' a ha x2 (by omega)
    omega
  · by_cases hm : m a < far
    · obtain ⟨y1, y2⟩ := h'.turn_le (pn_turn hp) h'' a ha hm (by omega)
      omega
    · omega
end Go.Proofs.Ytkbebdanpgaehaa.Dm
