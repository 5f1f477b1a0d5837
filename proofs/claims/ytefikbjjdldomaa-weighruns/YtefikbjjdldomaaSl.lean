/-
  What searches by keys find, said of costs in the whole net.
-/
import Derived.Test.YtefikbjjdldomaaMx
import Derived.Test.YtefikbjjdldomaaEE
namespace Go.Proofs.Ytefikbjjdldomaa.Sk
open Nm Wm Dm

/-- Guesses as a function. -/
def gf (l : List Int) : Nat → Int := fun v => l.getD v 0
theorem agr_cons {N t : Nat} {es : List E} {l : List Int} (ha : Agr N t es l) : ∀ e ∈ es, gf l e.1.toNat ≤ e.2.2 + gf l e.2.1.toNat := ha.rel
theorem sea_dead {N a t : Nat} {es : List E} {h : Nat → Int} {key : Int → Int → Int} (hh : h a = far) : sea N es h key t (N + 1) (st0 h a) [] = none := by
  have hw : ∀ v, wts (st0 h a) [] v = false := by
    intro v
    refine decide_eq_false (fun hq => ?_)
    have e : (st0 h a).c v = far := if_neg (fun hq => hq.2 hh)
    rw [e] at hq
    exact absurd hq.1 (by omega)
  have hp : ∀ n, pick (wts (st0 h a) []) (fun v => key ((st0 h a).c v) (h v)) h n = none := by
    intro n
    induction n with
    | zero => rfl
    | succ n ih =>
      unfold pick
      rw [ih]
      simp only
      rw [if_neg (by rw [hw n]; simp)]
  unfold sea
  rw [hp N]

/-! ### Keys in the same order -/
theorem pick_congr {W : Nat → Bool} {k k' h : Nat → Int} (hk : ∀ a b, k a < k b ↔ k' a < k' b) (n : Nat) : pick W k h n = pick W k' h n := by
  have hb : ∀ a b, bet k h a b = bet k' h a b := by
    intro a b
    unfold bet
    have h1 := hk a b
    have h2 := hk b a
    have e : (k a < k b ∨ (k a = k b ∧ (h a < h b ∨ (h a = h b ∧ a < b)))) ↔ (k' a < k' b ∨ (k' a = k' b ∧ (h a < h b ∨ (h a = h b ∧ a < b)))) := by
      have h3 : k a = k b ↔ k' a = k' b := by constructor <;> intro _ <;> omega
      rw [h1, h3]
    simp only [e]
  induction n with
  | zero => rfl
  | succ n ih =>
    unfold pick
    rw [ih]
    cases pick W k' h n with
    | none => rfl
    | some b => simp only [hb]
theorem sea_congr {N t : Nat} {es : List E} {h : Nat → Int} {key key' : Int → Int → Int} (hk : ∀ x y a b, key x (h a) < key y (h b) ↔ key' x (h a) < key' y (h b)) : ∀ f s ord, sea N es h key t f s ord = sea N es h key' t f s ord := by
  intro f
  induction f with
  | zero => intro s ord; rfl
  | succ f ih =>
    intro s ord
    unfold sea
    rw [pick_congr (k := fun v => key (s.c v) (h v)) (k' := fun v => key' (s.c v) (h v)) (fun a b => hk _ _ a b)]
    cases pick (wts s ord) (fun v => key' (s.c v) (h v)) h N with
    | none => rfl
    | some v => simp only [ih]

/-! ### What is found -/
/-- With weights. -/
structure Wgh (N : Nat) (es : List E) (a t : Nat) (A B : Int) (D : Nat → Int) (s : S) (o : List Nat) : Prop where
  dn : ∃ q, o = q ++ [t] ∧ ¬ t ∈ q ∧ Dn N es a s q
  nd : o.Nodup
  inn : ∀ v ∈ o, v < N
  len : o.length ≤ N
  lt : s.c t < far
  dlt : D t < far
  ok : A * s.c t ≤ B * D t
theorem weigh_fin {N a t : Nat} {es : List E} {l : List Int} {A B : Int} {d D : Nat → Int} (hp : Pn N es) (hd : IsD N (lv (gf l) es) a d) (hD : IsD N es a D) (hg : Agr N t es l) (ha : a < N) (ht : t < N) (hA : 1 ≤ A) (hAB : A ≤ B) :
    (∀ s o, sea N es (gf l) (fun c g => A * c + B * g) t (N + 1) (st0 (gf l) a) [] = some (s, o) → Wgh N es a t A B D s o) ∧ (sea N es (gf l) (fun c g => A * c + B * g) t (N + 1) (st0 (gf l) a) [] = none → D t = far) := by
  have hF : far = 1099511627776 := rfl
  have hgt : gf l t = 0 := hg.t0
  have hcon := agr_cons hg
  by_cases hh : gf l a = far
  · rw [sea_dead hh]
    refine ⟨fun _ _ hq => (by cases hq), fun _ => ?_⟩
    have h1 := hg.le hp hD ha ht
    have h2 : l.getD a 0 = far := hh
    have h3 := hD.hi t ht
    omega
  · obtain ⟨h1, h2⟩ := sea_weigh (h := gf l) hp hd ha ht hA hAB hcon hh
    refine ⟨fun s o e => ?_, fun e => ?_⟩
    · obtain ⟨q, e1, hf⟩ := h1 s o e
      subst e1
      have k1 := hf.inv.lo t ht
      have k2 := hf.lt
      have k3 := lv_ge hp hd hD t ht
      have k4 := lv_eq hp hd hD hcon t ht (by omega) (by rw [hgt]; omega)
      have hin : ∀ v ∈ q ++ [t], v < N := fun v hv => by
        rcases List.mem_append.1 hv with h | h
        · exact (hf.inv.inn v h).1
        · simp at h; subst h; exact ht
      have hnd : (q ++ [t]).Nodup := by
        rw [List.nodup_append]
        exact ⟨hf.inv.nd, by simp, fun x hx y hy => by simp at hy; subst hy; exact fun e => hf.no (e ▸ hx)⟩
      exact ⟨⟨q, rfl, hf.no, hf.inv.dn hd⟩, hnd, hin, nodup_le hnd hin, k2, by omega, by rw [← k4]; exact hf.ok⟩
    · have k1 := h2 e
      have k3 := hD.hi t ht
      by_cases hf : D t < far
      · have k4 := lv_eq hp hd hD hcon t ht hf (by rw [hgt]; omega)
        omega
      · omega
/-- Without weights. -/
structure Str (N : Nat) (h : Nat → Int) (t : Nat) (D : Nat → Int) (s : S) (o : List Nat) : Prop where
  ct : s.c t = D t
  srt : o.Pairwise (fun u v => D u + h u ≤ D v + h v)
  lt : ∀ u ∈ o, D u < far
  up : ∀ u ∈ o, D u + h u ≤ D t
  all : ∀ z, z < N → D z < far → D z + h z < D t → z ∈ o
theorem star_fin {N a t : Nat} {es : List E} {l : List Int} {d D : Nat → Int} (hp : Pn N es) (hd : IsD N (lv (gf l) es) a d) (hD : IsD N es a D) (hg : Agr N t es l) (ha : a < N) (ht : t < N) :
    ∀ s o, sea N es (gf l) (fun c g => 1 * c + 1 * g) t (N + 1) (st0 (gf l) a) [] = some (s, o) → Str N (gf l) t D s o := by
  have hF : far = 1099511627776 := rfl
  have hgt : gf l t = 0 := hg.t0
  have hcon := agr_cons hg
  intro s o e
  by_cases hh : gf l a = far
  · rw [sea_dead hh] at e; cases e
  · obtain ⟨q, e1, hf, k1, k2, k3, k4⟩ := sea_star (h := gf l) hp hd ha ht hcon hh s o e
    subst e1
    have m1 := lv_ge hp hd hD t ht
    have m2 := hf.lt
    have m3 := hf.inv.lo t ht
    have m4 := lv_eq hp hd hD hcon t ht (by omega) (by rw [hgt]; omega)
    have m5 := hd.bound (pn_lv hp) ht (by omega)
    have hin : ∀ v ∈ q ++ [t], v < N := fun v hv => by
      rcases List.mem_append.1 hv with h | h
      · exact (hf.inv.inn v h).1
      · simp at h; subst h; exact ht
    have hup : ∀ u ∈ q ++ [t], d u + gf l u ≤ d t + gf l t := by
      intro u hu
      rcases List.mem_append.1 hu with h | h
      · exact (List.pairwise_append.1 k2).2.2 u h t (by simp)
      · simp at h; subst h; exact Int.le_refl _
    have hnn : ∀ u, u < N → 0 ≤ gf l u := fun u hu => (hg.lo u hu).1
    have heq : ∀ u ∈ q ++ [t], d u = D u := by
      intro u hu
      have h1 := hup u hu
      have h2 := lv_ge hp hd hD u (hin u hu)
      have h3 := hnn u (hin u hu)
      exact lv_eq hp hd hD hcon u (hin u hu) (by omega) (by omega)
    refine ⟨by omega, ?_, ?_, ?_, ?_⟩
    · refine List.Pairwise.imp_of_mem (fun {x y} hx hy hxy => ?_) k2
      rw [← heq x hx, ← heq y hy]; exact hxy
    · intro u hu
      have h1 := hup u hu
      have h3 := hnn u (hin u hu)
      rw [← heq u hu]; omega
    · intro u hu
      have h1 := hup u hu
      rw [← heq u hu]; omega
    · intro z hz hf' hlt
      have h3 := hnn z hz
      have h5 := lv_eq hp hd hD hcon z hz hf' (by omega)
      have := k4 z hz (by omega) (by omega)
      simp [this]
/-- Of exact guesses each place that is looked from lies on a way that costs least. -/
theorem star_exact {N t : Nat} {es : List E} {h D : Nat → Int} {s : S} {o : List Nat} (hs : Str N h t D s o) {v a : Nat} {m : Nat → Int} (hp : Pn N es) (hD : IsD N es a D) (hm : IsD N es v m) (hv : v < N) (ht : t < N) (hvo : v ∈ o) (hmt : m t = h v) (hfin : D t < far) (h0 : 0 ≤ D v) : D v + m t = D t := by
  have h1 := hs.up v hvo
  have h2 := hs.lt v hvo
  have h3 := hD.over hp hm hv h2 t ht (by omega)
  omega
end Go.Proofs.Ytefikbjjdldomaa.Sk
