/-
  Contract: dijk.Way; the law text's beginning.
-/
import Derived.Test.YtefikbjjdldomaaYR
import Derived.Test.YtefikbjjdldomaaMx
import Derived.Test.YtefikbjjdldomaaDK
import Derived.Test.YtefikbjjdldomaaDL
import Derived.Test.YtefikbjjdldomaaTW
import Derived.Test.YtefikbjjdldomaaND
namespace Go.Proofs.Ytefikbjjdldomaa.Ym
open Nm Wm Dm Cm
set_option linter.unusedSimpArgs false

/-- From u an edge leads to v on a walk that costs least. -/
def Tg (es : List E) (d : Nat → Int) (u v : Nat) : Prop := ∃ e ∈ es, e.1.toNat = u ∧ e.2.1.toNat = v ∧ d u + e.2.2 = d v
/-- Of the first k edges: the least place from which one leads to v so. -/
def ahd (N : Nat) (es : List E) (d : Nat → Int) (v : Nat) : Nat → Nat
  | 0 => N
  | k + 1 => if (at3 es k).2.1.toNat = v ∧ d (at3 es k).1.toNat + (at3 es k).2.2 = d v then min (ahd N es d v k) (at3 es k).1.toNat else ahd N es d v k
theorem ahd_yes {N : Nat} {es : List E} {d : Nat → Int} {v k : Nat} (h : (at3 es k).2.1.toNat = v ∧ d (at3 es k).1.toNat + (at3 es k).2.2 = d v) : ahd N es d v (k + 1) = min (ahd N es d v k) (at3 es k).1.toNat := by rw [ahd, if_pos h]
theorem ahd_no {N : Nat} {es : List E} {d : Nat → Int} {v k : Nat} (h : ¬ ((at3 es k).2.1.toNat = v ∧ d (at3 es k).1.toNat + (at3 es k).2.2 = d v)) : ahd N es d v (k + 1) = ahd N es d v k := by rw [ahd, if_neg h]
theorem ahd_step (N : Nat) (es : List E) (d : Nat → Int) (v k : Nat) : ahd N es d v (k + 1) ≤ ahd N es d v k := by
  rw [ahd]; split
  · exact Nat.min_le_left _ _
  · exact Nat.le_refl _
theorem ahd_top (N : Nat) (es : List E) (d : Nat → Int) (v k : Nat) : ahd N es d v k ≤ N := by
  induction k with
  | zero => exact Nat.le_refl _
  | succ k ih => exact Nat.le_trans (ahd_step N es d v k) ih
theorem ahd_mono (N : Nat) (es : List E) (d : Nat → Int) (v : Nat) {j k : Nat} (h : j ≤ k) : ahd N es d v k ≤ ahd N es d v j := by
  induction k with
  | zero => obtain rfl : j = 0 := by omega
            exact Nat.le_refl _
  | succ k ih =>
    rcases (show j ≤ k ∨ j = k + 1 by omega) with h1 | rfl
    · exact Nat.le_trans (ahd_step N es d v k) (ih h1)
    · exact Nat.le_refl _
theorem ahd_least {N : Nat} {es : List E} {d : Nat → Int} {u v : Nat} (h : Tg es d u v) : ahd N es d v es.length ≤ u := by
  obtain ⟨e, he, h1, h2, h3⟩ := h
  obtain ⟨j, hj, rfl⟩ := List.mem_iff_getElem.1 he
  have e3 : at3 es j = es[j] := by unfold at3; simp [hj]
  refine Nat.le_trans (ahd_mono N es d v (show j + 1 ≤ es.length by omega)) ?_
  rw [ahd_yes (by rw [e3, h1]; exact ⟨h2, h3⟩), e3, h1]
  exact Nat.min_le_right _ _
theorem ahd_from (N : Nat) (es : List E) (d : Nat → Int) (v k : Nat) (hk : k ≤ es.length) : ahd N es d v k = N ∨ Tg es d (ahd N es d v k) v := by
  induction k with
  | zero => exact .inl rfl
  | succ k ih =>
    have ih := ih (by omega)
    by_cases h : (at3 es k).2.1.toNat = v ∧ d (at3 es k).1.toNat + (at3 es k).2.2 = d v
    · rw [ahd_yes h]
      by_cases hm : ahd N es d v k ≤ (at3 es k).1.toNat
      · rw [Nat.min_eq_left hm]; exact ih
      · rw [Nat.min_eq_right (by omega)]
        exact .inr ⟨at3 es k, mem_at (by omega), rfl, h.1, h.2⟩
    · rw [ahd_no h]; exact ih
/-- The place ahead of v. -/
def ah (N : Nat) (es : List E) (d : Nat → Int) (v : Nat) : Nat := ahd N es d v es.length
theorem ah_is {N : Nat} {es : List E} {s v : Nat} {d : Nat → Int} (hp : Pn N es) (h : IsD N es s d) (hv : v < N) (hs : v ≠ s) (hf : d v < far) : ah N es d v < N ∧ Tg es d (ah N es d v) v := by
  obtain ⟨e, he, h1, _, h3⟩ := h.sup v hv hs hf
  have h4 : ah N es d v ≤ e.1.toNat := ahd_least ⟨e, he, rfl, h1, h3⟩
  have h5 := (hp.nat he).1
  refine ⟨by omega, ?_⟩
  rcases ahd_from N es d v es.length (Nat.le_refl _) with h6 | h6
  · unfold ah at h4; omega
  · exact h6
theorem tg_less {N : Nat} {es : List E} {u v : Nat} {d : Nat → Int} (hp : Pn N es) (h : Tg es d u v) : d u + 1 ≤ d v ∧ u < N := by
  obtain ⟨e, he, h1, h2, h3⟩ := h
  obtain ⟨a, _, c, _⟩ := hp.nat he
  rw [h1] at a
  exact ⟨by omega, a⟩
theorem tg_chp {N : Nat} {es : List E} {s u v : Nat} {d : Nat → Int} (hp : Pn N es) (h : IsD N es s d) (ht : Tg es d u v) (hf : d v < far) : chp u v es = some (d v - d u) := by
  have hl := (tg_less hp ht).1
  obtain ⟨e, he, h1, h2, h3⟩ := ht
  have h0 := hp.ok e he
  refine chp_of ⟨e, he, by omega, by omega, by omega⟩ (fun x hx a b => ?_)
  have h4 := h.rel x hx
  rw [a, b, Int.toNat_natCast, Int.toNat_natCast] at h4
  have := h4 (by omega)
  omega
theorem chp_tg {es : List E} {u v : Nat} {c : Int} {d : Nat → Int} (h : chp u v es = some c) (he : d u + c = d v) : Tg es d u v := by
  obtain ⟨⟨e, hm, a, b, rfl⟩, _⟩ := chp_some h
  exact ⟨e, hm, by rw [a, Int.toNat_natCast], by rw [b, Int.toNat_natCast], he⟩

/-- So many steps back. -/
def anc (f : Nat → Nat) (t : Nat) : Nat → Nat
  | 0 => t
  | k + 1 => f (anc f t k)
def bp (f : Nat → Nat) (t k : Nat) : List Int := (List.range (k + 1)).map (fun i => (anc f t i : Int))
theorem bp_zero (f : Nat → Nat) (t : Nat) : bp f t 0 = [(t : Int)] := rfl
theorem bp_next (f : Nat → Nat) (t k : Nat) : bp f t (k + 1) = bp f t k ++ [(anc f t (k + 1) : Int)] := by
  unfold bp; rw [List.range_succ (n := k + 1), List.map_append]; rfl
theorem bp_length (f : Nat → Nat) (t k : Nat) : (bp f t k).length = k + 1 := by simp [bp]
theorem bp_at {f : Nat → Nat} {t k i : Nat} (h : i ≤ k) : (bp f t k).getD i 0 = (anc f t i : Int) := by
  simp [bp, List.getD_eq_getElem?_getD, show i < k + 1 by omega]
theorem rev_next (f : Nat → Nat) (t k : Nat) : (bp f t (k + 1)).reverse = (anc f t (k + 1) : Int) :: (bp f t k).reverse := by rw [bp_next, List.reverse_append]; rfl
theorem rev_at {f : Nat → Nat} {t k i : Nat} (h : i ≤ k) : (bp f t k).reverse.getD i 0 = (anc f t (k - i) : Int) := by
  rw [← bp_at (k := k) (show k - i ≤ k by omega)]
  rw [List.getD_eq_getElem?_getD, List.getElem?_reverse (by rw [bp_length]; omega), ← List.getD_eq_getElem?_getD, bp_length]
  congr 1

/-- So far back, and not yet at s. -/
structure Bk (N : Nat) (es : List E) (s : Nat) (d : Nat → Int) (t k : Nat) : Prop where
  lt : ∀ i, i ≤ k → anc (ah N es d) t i < N
  fin : ∀ i, i ≤ k → d (anc (ah N es d) t i) < far
  ne : ∀ i, i < k → anc (ah N es d) t i ≠ s
  tg : ∀ i, i < k → Tg es d (anc (ah N es d) t (i + 1)) (anc (ah N es d) t i)
theorem bk_zero {N : Nat} {es : List E} {s t : Nat} {d : Nat → Int} (ht : t < N) (hf : d t < far) : Bk N es s d t 0 := by
  refine ⟨fun i hi => ?_, fun i hi => ?_, fun i hi => by omega, fun i hi => by omega⟩
  · obtain rfl : i = 0 := by omega
    exact ht
  · obtain rfl : i = 0 := by omega
    exact hf
theorem bk_next {N : Nat} {es : List E} {s t k : Nat} {d : Nat → Int} (hp : Pn N es) (h : IsD N es s d) (hb : Bk N es s d t k) (hne : anc (ah N es d) t k ≠ s) : Bk N es s d t (k + 1) := by
  obtain ⟨h1, h2⟩ := ah_is hp h (hb.lt k (Nat.le_refl _)) hne (hb.fin k (Nat.le_refl _))
  have h3 := (tg_less hp h2).1
  have h4 := hb.fin k (Nat.le_refl _)
  refine ⟨fun i hi => ?_, fun i hi => ?_, fun i hi => ?_, fun i hi => ?_⟩
  · rcases (show i ≤ k ∨ i = k + 1 by omega) with h | rfl
    · exact hb.lt i h
    · exact h1
  · rcases (show i ≤ k ∨ i = k + 1 by omega) with h | rfl
    · exact hb.fin i h
    · show d (ah N es d (anc (ah N es d) t k)) < far
      omega
  · rcases (show i < k ∨ i = k by omega) with h | rfl
    · exact hb.ne i h
    · exact hne
  · rcases (show i < k ∨ i = k by omega) with h | rfl
    · exact hb.tg i h
    · exact h2
theorem Bk.down {N : Nat} {es : List E} {s t k : Nat} {d : Nat → Int} (hp : Pn N es) (hb : Bk N es s d t k) : ∀ i j, i < j → j ≤ k → d (anc (ah N es d) t j) < d (anc (ah N es d) t i) := by
  intro i j
  induction j with
  | zero => intro h; omega
  | succ j ih =>
    intro hij hj
    have h1 := (tg_less hp (hb.tg j (by omega))).1
    rcases (show i < j ∨ i = j by omega) with h | rfl
    · have := ih h (by omega); omega
    · omega
theorem Bk.short {N : Nat} {es : List E} {s t k : Nat} {d : Nat → Int} (hp : Pn N es) (hb : Bk N es s d t k) : k + 1 ≤ N := by
  have key : ∀ j, j ≤ k → j + rk N d (d (anc (ah N es d) t j)) ≤ rk N d (d t) := by
    intro j
    induction j with
    | zero => intro _; show 0 + rk N d (d t) ≤ _; omega
    | succ j ih =>
      intro hj
      have := ih (by omega)
      have h1 := (tg_less hp (hb.tg j (by omega))).1
      have := rk_lt (N := N) (d := d) (hb.lt (j + 1) hj) (show d (anc (ah N es d) t (j + 1)) < d (anc (ah N es d) t j) by omega)
      omega
  have h1 := key k (Nat.le_refl _)
  have h2 := rk_less (N := N) (d := d) (hb.lt 0 (Nat.zero_le _))
  have h3 : anc (ah N es d) t 0 = t := rfl
  rw [h3] at h2
  omega
theorem Bk.one {N : Nat} {es : List E} {s t k k' : Nat} {d : Nat → Int} (hb : Bk N es s d t k) (hs : anc (ah N es d) t k = s) (hb' : Bk N es s d t k') (hs' : anc (ah N es d) t k' = s) : k = k' := by
  rcases (show k < k' ∨ k = k' ∨ k' < k by omega) with h | h | h
  · exact absurd hs (hb'.ne k h)
  · exact h
  · exact absurd hs' (hb.ne k' h)

/-- A list whose steps cost what the places differ by. -/
def Tl (es : List E) (D : Int → Int) (p : List Int) : Prop := ∀ i, i + 1 < p.length → chp (p.getD i 0) (p.getD (i + 1) 0) es = some (D (p.getD (i + 1) 0) - D (p.getD i 0))
theorem tl_wc {es : List E} {D : Int → Int} (p : List Int) (h0 : 0 < p.length) (h : Tl es D p) : wc es p = some (D (p.getD (p.length - 1) 0) - D (p.getD 0 0)) := by
  induction p with
  | nil => simp at h0
  | cons u r ih =>
    cases r with
    | nil => rw [wc_one]; simp
    | cons v r =>
      have hc := h 0 (by simp)
      simp only [List.getD_cons_zero, List.getD_cons_succ] at hc
      have h2 : Tl es D (v :: r) := fun i hi => by
        have := h (i + 1) (by simp at hi ⊢; omega)
        simpa using this
      rw [wc_on hc, ih (by simp) h2, last_cons (x := u) (r := v :: r) (fun e => by cases e)]
      simp only [Option.map_some, List.getD_cons_zero]
      congr 1
      omega
theorem tl_part {es : List E} {D : Int → Int} {p : List Int} (h : Tl es D p) (i m : Nat) (hm : i + m ≤ p.length) : Tl es D ((p.drop i).take m) := by
  have hg : ∀ j, j < m → ((p.drop i).take m).getD j 0 = p.getD (i + j) 0 := by
    intro j hj
    simp [List.getD_eq_getElem?_getD, List.getElem?_take, hj, List.getElem?_drop]
  intro j hj
  rw [List.length_take, List.length_drop] at hj
  rw [hg j (by omega), hg (j + 1) (by omega)]
  exact h (i + j) (by omega)
theorem bk_tl {N : Nat} {es : List E} {s t k : Nat} {d : Nat → Int} (hp : Pn N es) (h : IsD N es s d) (hb : Bk N es s d t k) : Tl es (fun x => d x.toNat) (bp (ah N es d) t k).reverse := by
  intro i hi
  rw [List.length_reverse, bp_length] at hi
  rw [rev_at (show i ≤ k by omega), rev_at (show i + 1 ≤ k by omega)]
  have := tg_chp hp h (hb.tg (k - (i + 1)) (by omega)) (hb.fin _ (by omega))
  rw [show k - (i + 1) + 1 = k - i by omega] at this
  simpa using this
theorem bk_wc {N : Nat} {es : List E} {s t k : Nat} {d : Nat → Int} (hp : Pn N es) (h : IsD N es s d) (hb : Bk N es s d t k) (hs : anc (ah N es d) t k = s) : wc es (bp (ah N es d) t k).reverse = some (d t) := by
  rw [tl_wc _ (by rw [List.length_reverse, bp_length]; omega) (bk_tl hp h hb), List.length_reverse, bp_length]
  rw [rev_at (show k + 1 - 1 ≤ k by omega), rev_at (show 0 ≤ k by omega)]
  simp only [Int.toNat_natCast]
  rw [show k - (k + 1 - 1) = 0 by omega, show k - 0 = k by omega, hs, h.s0]
  show some (d t - 0) = some (d t)
  rw [Int.sub_zero]
theorem bk_nodup {N : Nat} {es : List E} {s t k : Nat} {d : Nat → Int} (hp : Pn N es) (hb : Bk N es s d t k) : (bp (ah N es d) t k).reverse.Nodup := by
  rw [List.nodup_iff_pairwise_ne, List.pairwise_reverse]
  unfold bp
  rw [List.pairwise_map, List.pairwise_iff_getElem]
  intro i j hi hj hij he
  simp at hi hj he
  have := hb.down hp i j hij (by omega)
  rw [show anc (ah N es d) t j = anc (ah N es d) t i by omega] at this
  omega
theorem bk_all {N : Nat} {es : List E} {s t k : Nat} {d : Nat → Int} (hb : Bk N es s d t k) : (bp (ah N es d) t k).reverse.all (plc N) = true := by
  rw [List.all_eq_true]
  intro x hx
  rw [List.mem_reverse] at hx
  unfold bp at hx
  obtain ⟨i, hi, rfl⟩ := List.mem_map.1 hx
  have := hb.lt i (by have := List.mem_range.1 hi; omega)
  exact plc_yes (by omega) (by omega)
end Go.Proofs.Ytefikbjjdldomaa.Ym

namespace Go.Proofs.Ytefikbjjdldomaa
open Go.RowKit
open Nm Wm Dm Ym
attribute [local go_sem ↓] Go.wp_at_zero Go.wp_at_succ

set_option maxRecDepth 100000 in
set_option maxHeartbeats 8000000 in
theorem ahead_any (N t G : Nat) (v : Value) (es : List E) (d : Nat → Int) (w : World) (hv : SlE w v es) (hp : Pn N es) (hd : ∀ i, i < N → 0 ≤ d i ∧ d i ≤ 1099511627776) (hu : Ur w G N d) (ht : t < N) :
    Calls Try.prog 96 #[.agg #[.int .i64 N, v], .slice (some ⟨G, 0, none⟩) N N, .int .i64 t] w fun e w' => e = .returned (.int .i64 (ah N es d t)) ∧ Below w.heap.size w w' := by
  obtain ⟨a0, c0, rfl⟩ := hv.val
  have HV : Hid _ := hv
  have HP : Hid _ := hp
  have HU : Hid _ := hu
  have HD : Hid _ := hd
  have hlen := hp.len
  have hn64 := hp.n64
  clear hv hp hu hd
  go_enter Try.func96, Try.ntmps96
  go_wp2_with fail
  have P0 : Hid _ := box2_new w (N : Int) (.slice a0 es.length c0) 24
  have B0 : Hid (Below w.heap.size w (w.alloc (.cells #[.int .i64 N, .slice a0 es.length c0] 24))) := balloc (Below.refl _ _) _
  generalize w.alloc (.cells #[.int .i64 N, .slice a0 es.length c0] 24) = W0 at *
  go_loopw [15, 7] (fun z l wr => ∃ k : Nat, z = .int .i64 k ∧ k ≤ es.length ∧ l = .int .i64 (ahd N es d t k) ∧ Below W0.heap.size W0 wr) (fun z _ _ => es.length - (intOf z).toNat)
  case atStart => exact ⟨0, rfl, Nat.zero_le _, rfl, Below.refl _ _⟩
  case round =>
    obtain ⟨k, rfl, hk, rfl, hb⟩ := hrel
    have HB : Hid (Below W0.heap.size W0 wr) := hb
    clear hb
    by_cases hlt : k < es.length
    · have hki : (k : Int) < (es.length : Int) := by omega
      obtain ⟨b, off, cap, hveq, hc⟩ := ((HV.out.below B0.out).below HB.out).some' (by omega)
      simp only [Value.slice.injEq] at hveq
      obtain ⟨rfl, -, rfl⟩ := hveq
      obtain ⟨e0, e1, e2⟩ := hc k hlt
      clear hc
      have hok := HP.out.ok _ (mem_at hlt)
      have HY : Hid _ := @ahd_yes N es d t k
      have HN : Hid _ := @ahd_no N es d t k
      have HM : Hid _ := ahd_top N es d t k
      obtain ⟨p, hpe⟩ : ∃ p, at3 es k = p := ⟨_, rfl⟩
      rw [hpe] at e0 e1 e2 hok HY HN
      clear hpe
      obtain ⟨x, y, c⟩ := p
      simp only at e0 e1 e2 hok HY HN
      obtain ⟨ok1, ok2, ok3, ok4, ok5, ok6⟩ := hok
      obtain ⟨x, rfl⟩ := Int.eq_ofNat_of_zero_le ok1
      obtain ⟨y, rfl⟩ := Int.eq_ofNat_of_zero_le ok3
      simp only [Int.toNat_natCast] at HY HN
      have hxN : x < N := by omega
      have U1 : Hid _ := ((HU.out.below B0.out).below HB.out).below (balloc (Below.refl _ _) (.cells #[.int .i64 x, .int .i64 y, .int .i64 c] 66))
      have B1 : Hid (Below W0.heap.size W0 (wr.alloc (.cells #[.int .i64 x, .int .i64 y, .int .i64 c] 66))) := balloc HB.out _
      obtain ⟨y0, y1, y2⟩ := box3_new wr x y (.int .i64 c) 66
      obtain ⟨c1, _⟩ := U1.out.cell x hxN
      obtain ⟨c2, _⟩ := U1.out.cell t ht
      have hx := HD.out x hxN
      have htd := HD.out t ht
      have htN : (t : Int) < (N : Int) := by omega
      go_wp2_with fail
      generalize wr.alloc (.cells #[.int .i64 x, .int .i64 y, .int .i64 c] 66) = W1 at *
      obtain ⟨Y, hY⟩ : ∃ Y, wr.heap.size = Y := ⟨_, rfl⟩
      rw [hY] at y0 y1 y2 ⊢
      clear hY e0 e1 e2
      generalize ahd N es d t k = m at *
      by_cases hyt : y = t
      · have hyb : ((y : Int) == (t : Int)) = true := by simp [hyt]
        by_cases hdd : d x + c = d t
        · have HF : Hid (ahd N es d t (k + 1) = min m x) := HY.out ⟨hyt, hdd⟩
          have hdb : (d x + c == d t) = true := by simp [hdd]
          have hmN := HM.out
          clear HY HN HM hyt hdd
          generalize d x = dx at *
          generalize d t = dt at *
          go_quiet (fail)
          rcases (show m < x ∨ x < m ∨ m = x by omega) with h | h | h
          · have HG : Hid (min m x = m) := Nat.min_eq_left (by omega)
            have hmx : (m : Int) < (x : Int) := by omega
            go_wp2_with fail
            go_roundw
            case rel => exact ⟨k + 1, by go_num, by omega, by rw [HF.out, HG.out], bdrewN B1.out _⟩
            case measure => simp [intOf]; omega
          · have HG : Hid (min m x = x) := Nat.min_eq_right (by omega)
            have hmx : (x : Int) < (m : Int) := by omega
            go_wp2_with fail
            go_roundw
            case rel => exact ⟨k + 1, by go_num, by omega, by rw [HF.out, HG.out], bdrewN B1.out _⟩
            case measure => simp [intOf]; omega
          · have HG : Hid (min m x = x) := Nat.min_eq_right (by omega)
            subst h
            go_wp2_with fail
            go_roundw
            case rel => exact ⟨k + 1, by go_num, by omega, by rw [HF.out, HG.out], bdrewN B1.out _⟩
            case measure => simp [intOf]; omega
        · have HF : Hid (ahd N es d t (k + 1) = m) := HN.out (fun h => hdd h.2)
          have hdb : (d x + c == d t) = false := by simp [hdd]
          clear HY HN HM hyt hdd
          generalize d x = dx at *
          generalize d t = dt at *
          go_quiet (fail)
          go_wp2_with fail
          go_roundw
          case rel => exact ⟨k + 1, by go_num, by omega, by rw [HF.out], bdrewN B1.out _⟩
          case measure => simp [intOf]; omega
      · have hyb : ((y : Int) == (t : Int)) = false := by simp; omega
        have HF : Hid (ahd N es d t (k + 1) = m) := HN.out (fun h => hyt h.1)
        clear HY HN HM hyt
        go_quiet (fail)
        go_wp2_with fail
        go_roundw
        case rel => exact ⟨k + 1, by go_num, by omega, by rw [HF.out], bdrewN B1.out _⟩
        case measure => simp [intOf]; omega
    · have hke : k = es.length := by omega
      subst hke
      go_wp2_with fail
      go_ret
      exact ⟨rfl, bthen B0.out HB.out⟩
end Go.Proofs.Ytefikbjjdldomaa

namespace Go.Proofs.Ytefikbjjdldomaa
open Go.RowKit
open Nm Wm Dm Ym
attribute [local go_sem ↓] Go.wp_at_zero Go.wp_at_succ

theorem lit_is (w : World) (x : Int) (base : Nat) (hb : base ≤ w.heap.size) : Is (w.alloc (.cells #[.int .i64 x] 3)) base (.slice (some ⟨w.heap.size, 0, none⟩) 1 1) [x] :=
  ⟨⟨rfl, .inr ⟨w.heap.size, 1, #[.int .i64 x], rfl, hb, heap_alloc_new w _, Nat.le_refl _, by unfold maxLen; omega, rfl, rfl⟩⟩⟩

set_option maxRecDepth 100000 in
set_option maxHeartbeats 16000000 in
theorem dback_any (N s t G : Nat) (v : Value) (es : List E) (d : Nat → Int) (w : World) (hv : SlE w v es) (hp : Pn N es) (hd : IsD N es s d) (hu : Ur w G N d) (ht : t < N) (hf : d t < far) :
    Calls Try.prog 82 #[.agg #[.int .i64 N, v], .slice (some ⟨G, 0, none⟩) N N, .int .i64 s, .int .i64 t] w fun e w' => ∃ g cap k, e = .returned (.slice (some ⟨g, 0, none⟩) (k + 1) cap) ∧ Bk N es s d t k ∧ anc (ah N es d) t k = s ∧ Is w' w.heap.size (.slice (some ⟨g, 0, none⟩) (k + 1) cap) (bp (ah N es d) t k).reverse ∧ Below w.heap.size w w' := by
  obtain ⟨a0, c0, rfl⟩ := hv.val
  have HV : Hid _ := hv
  have HP : Hid _ := hp
  have HU : Hid _ := hu
  have HD : Hid _ := hd
  have HDR : Hid (∀ i, i < N → 0 ≤ d i ∧ d i ≤ 1099511627776) := fun i hi => ⟨hd.lo i hi, hd.hi i hi⟩
  have HK0 : Hid _ := bk_zero (N := N) (es := es) (s := s) ht hf
  have hlen := hp.len
  have hn64 := hp.n64
  obtain ⟨f, hfe⟩ : ∃ f, ah N es d = f := ⟨_, rfl⟩
  have HFE : Hid _ := hfe
  clear hv hp hu hd hf hfe
  go_enter Try.func82, Try.ntmps82
  go_wp2_with fail
  have P0 : Hid _ := box2_new w (N : Int) (.slice a0 es.length c0) 24
  have B0 : Hid (Below w.heap.size w (w.alloc (.cells #[.int .i64 N, .slice a0 es.length c0] 24))) := balloc (Below.refl _ _) _
  have hz0 : (w.alloc (.cells #[.int .i64 N, .slice a0 es.length c0] 24)).heap.size = w.heap.size + 1 := by simp
  generalize w.alloc (.cells #[.int .i64 N, .slice a0 es.length c0] 24) = W0 at *
  have I1 : Hid _ := lit_is W0 (t : Int) W0.heap.size (Nat.le_refl _)
  rw [hz0] at I1
  have B1 : Hid (Below W0.heap.size W0 (W0.alloc (.cells #[.int .i64 t] 3))) := balloc (Below.refl _ _) _
  generalize W0.alloc (.cells #[.int .i64 t] 3) = W1 at *
  go_loopw [9, 10] (fun u z wr => ∃ k g cap : Nat, u = .slice (some ⟨g, 0, none⟩) (k + 1) cap ∧ z = .int .i64 (anc f t k) ∧ Bk N es s d t k ∧ Is wr W0.heap.size (.slice (some ⟨g, 0, none⟩) (k + 1) cap) (bp f t k) ∧ Below W0.heap.size W0 wr) (fun _ z _ => (d (intOf z).toNat).toNat)
  case atStart => exact ⟨0, w.heap.size + 1, 1, rfl, rfl, HK0.out, by rw [hz0]; exact I1.out, B1.out⟩
  case round =>
    clear I1 B1 HK0
    obtain ⟨k, g, cap, rfl, rfl, hbk, his, hb⟩ := hrel
    have HBK : Hid _ := hbk
    have HI : Hid _ := his
    have HB : Hid (Below W0.heap.size W0 wr) := hb
    have hkN := hbk.short HP.out
    have hlt : anc f t k < N := by have := hbk.lt k (Nat.le_refl _); rw [HFE.out] at this; exact this
    clear hbk his hb
    by_cases he : anc f t k = s
    · have HE : Hid _ := he
      have heb : ((anc f t k : Int) != (s : Int)) = false := by simp [he]
      have hie : ((anc f t k : Nat) : Int) = (s : Int) := by rw [he]
      clear he
      have HRW : Hid (Rw wr g cap (bp f t k) ∧ W0.heap.size ≤ g) := by
        rcases HI.out.rw with ⟨h1, _⟩ | ⟨g', cap', h1, h2, h3⟩
        · cases h1
        · simp only [Value.slice.injEq, Option.some.injEq, Addr.mk.injEq] at h1
          obtain ⟨⟨rfl, -, -⟩, -, rfl⟩ := h1
          exact ⟨h3, h2⟩
      have hr := reverse_any g cap (bp f t k) wr HRW.out.1 (by rw [bp_length]; omega)
      rw [bp_length] at hr
      have HR : Hid _ := fun (_ : Unit) => hr
      clear hr
      go_wp2_with fail
      refine (HR.out ()).mono ?_
      rintro e w2 ⟨rfl, r2, gr2⟩
      have R2 : Hid _ := r2
      have B2 : Hid (Below W0.heap.size W0 w2) := below_grown HB.out gr2 HRW.out.2 HB.out.size
      clear r2 gr2
      go_wp2_with fail
      go_ret
      refine ⟨g, cap, k, rfl, HBK.out, by rw [HFE.out]; exact HE.out, ?_, bthen B0.out B2.out⟩
      have := R2.out.is (base := w.heap.size) (by have := HRW.out.2; omega)
      rw [List.length_reverse, bp_length] at this
      rw [HFE.out]
      exact this
    · have HBN : Hid (Bk N es s d t (k + 1)) := bk_next HP.out HD.out HBK.out (by rw [HFE.out]; exact he)
      have heb : ((anc f t k : Int) != (s : Int)) = true := by simp; omega
      have hne : ¬ ((anc f t k : Nat) : Int) = (s : Int) := by omega
      have HDN : Hid (d (anc f t (k + 1)) < d (anc f t k) ∧ 0 ≤ d (anc f t (k + 1))) := by
        have h1 := HBN.out.down HP.out k (k + 1) (by omega) (by omega)
        have h2 := HBN.out.lt (k + 1) (by omega)
        rw [HFE.out] at h1 h2
        exact ⟨h1, (HDR.out _ h2).1⟩
      have HA : Hid _ := fun (_ : Unit) => ahead_any N (anc f t k) G (.slice a0 es.length c0) es d wr ((HV.out.below B0.out).below HB.out) HP.out HDR.out ((HU.out.below B0.out).below HB.out) hlt
      rw [HFE.out] at HA
      have HNX : Hid (anc f t (k + 1) = f (anc f t k)) := rfl
      rw [← HNX.out] at HA
      have HBP : Hid _ := bp_next f t k
      have HBL : Hid _ := bp_length f t k
      clear he
      obtain ⟨p0, p1⟩ := P0.out.below HB.out
      obtain ⟨y, hy⟩ : ∃ y, anc f t (k + 1) = y := ⟨_, rfl⟩
      have HYE : Hid _ := hy
      rw [hy] at HA HBP HDN
      clear hy
      go_wp2_with fail
      refine (HA.out ()).mono ?_
      rintro e w2 ⟨rfl, b2⟩
      have B2 : Hid (Below W0.heap.size W0 w2) := bthen HB.out b2
      have hown := (HI.out.below b2).own
      rw [HBL.out] at hown
      have hwz := B2.out.size
      obtain ⟨i0, hi0, hz0, hz1, hz2⟩ := info3_parts
      have HNW : Hid ((w2.alloc (.cells #[.int .i64 y] 3)).heap[w2.heap.size]? = some (.cells #[.int .i64 y] 3)) := heap_alloc_new w2 _
      clear b2 p0 p1
      go_wp2_with (first
        | (at_builtin; refine wpList_append_lies _ rfl _ _ _ rfl W0.heap.size 3 i0 _ 1 8 Try.underlying25 hi0 hz0 hz1 hz2 rfl (by omega) (.slice (some ⟨g, 0, none⟩) (k + 1) cap) (k + 1) ((bp f t k).map (fun z => .int .i64 z)) rfl (hown.alloc _) ⟨w2.heap.size, 0, none⟩ 1 1 [.int .i64 y] rfl rfl (World.news_of_block (cs := #[.int .i64 y]) (t := 3) (fr := (0, 0)) HNW.out) (by simp [Value.oneCell']) (by omega) (by unfold maxLen; omega) (by omega) (by simp; omega) (w2.heap.size + 1) (by simp) ?_; intro gg cap' w3 hown3 hgrow hat hlt3; have B3 : Hid (Below W0.heap.size W0 w3) := (by exact (balloc B2.out _).grown hgrow (by simp; omega) (fun k hk => (ownBlock_lt hown k hk).1)); clear hgrow hat)
        | go_in)
      go_roundw
      case rel => exact ⟨k + 1, gg, cap', rfl, by rw [HYE.out], HBN.out, by rw [HBP.out]; exact Is.next rfl HBL.out.symm hown3, B3.out⟩
      case measure => have := HDN.out; simp [intOf]; omega
end Go.Proofs.Ytefikbjjdldomaa

namespace Go.Proofs.Ytefikbjjdldomaa
open Go.RowKit
open Nm Wm Dm Ym
attribute [local go_sem ↓] Go.wp_at_zero Go.wp_at_succ

/-- A box of a way. -/
structure Bwy (w : World) (k : Nat) (a b : Value) : Prop where
  at_ : w.heap[k]? = some (.cells #[a, b] 27 (0, 0))
theorem Bwy.lt {w : World} {k : Nat} {a b : Value} (h : Bwy w k a b) : k < w.heap.size := by
  rcases Nat.lt_or_ge k w.heap.size with hlt | hge
  · exact hlt
  · have := h.at_; rw [Array.getElem?_eq_none hge] at this; cases this
theorem Bwy.cell {w : World} {k : Nat} {a b : Value} (h : Bwy w k a b) : w.cell? ⟨k, 0, none⟩ = some a ∧ w.cell? ⟨k, 1, none⟩ = some b := by
  have := h.at_; simp [World.cell?, this]
theorem Bwy.frozen {w : World} {k : Nat} {a b : Value} (h : Bwy w k a b) : w.frozen? ⟨k, 0, none⟩ = false ∧ w.frozen? ⟨k, 1, none⟩ = false := by
  have := h.at_; simp [World.frozen?, this]
theorem Bwy.below {w w' : World} {k : Nat} {a b : Value} (h : Bwy w k a b) (hb : Below w.heap.size w w') : Bwy w' k a b := ⟨(hb.block _ h.lt).trans h.at_⟩
theorem bwy_new (w : World) (a b : Value) : Bwy (w.alloc (.cells #[a, b] 27)) w.heap.size a b := ⟨heap_alloc_new w _⟩

set_option maxRecDepth 100000 in
set_option maxHeartbeats 4000000 in
theorem way_bad (n s t : Int) (v : Value) (es : List E) (w : World) (hv : SlE w v es) (hlen : es.length ≤ 9223372036854775807) (hc : lk n es [s, t] ≠ 0) :
    Calls Try.prog 54 #[.agg #[.int .i64 n, v], .int .i64 s, .int .i64 t] w fun e w' => e = .returned (.tuple #[.agg #[.slice none 0 0, .int .i64 0], .int .i64 (lk n es [s, t])]) ∧ Below w.heap.size w w' := by
  obtain ⟨a0, c0, rfl⟩ := hv.val
  have HV : Hid _ := hv
  have hz : (lk n es [s, t] != 0) = true := by simp [hc]
  clear hv hc
  go_enter Try.func54, Try.ntmps54
  go_wp2_with fail
  have B0 : Hid (Below w.heap.size w (w.alloc (.cells #[.int .i64 n, .slice a0 es.length c0] 24))) := balloc (Below.refl _ _) _
  have hz0 : (w.alloc (.cells #[.int .i64 n, .slice a0 es.length c0] 24)).heap.size = w.heap.size + 1 := by simp
  generalize w.alloc (.cells #[.int .i64 n, .slice a0 es.length c0] 24) = W0 at *
  have N1 : Hid _ := bwy_new W0 (.slice none 0 0) (.int .i64 0)
  rw [hz0] at N1
  have B1 : Hid (Below w.heap.size w (W0.alloc (.cells #[.slice none 0 0, .int .i64 0] 27))) := balloc B0.out _
  have hz1 : (W0.alloc (.cells #[.slice none 0 0, .int .i64 0] 27)).heap.size = w.heap.size + 1 + 1 := by simp; omega
  generalize W0.alloc (.cells #[.slice none 0 0, .int .i64 0] 27) = W1 at *
  have L1 : Hid _ := lit_nums W1 [s, t] #[.int .i64 s, .int .i64 t] 2 rfl rfl
  rw [hz1] at L1
  have N2 : Hid _ := N1.out.below (balloc (Below.refl _ _) (.cells #[.int .i64 s, .int .i64 t] 3))
  have B2 : Hid (Below w.heap.size w (W1.alloc (.cells #[.int .i64 s, .int .i64 t] 3))) := balloc B1.out _
  generalize W1.alloc (.cells #[.int .i64 s, .int .i64 t] 3) = W2 at *
  clear hz0 hz1 B0 B1 N1
  refine (look_any n _ _ es [s, t] W2 (HV.out.below B2.out) L1.out hlen (by simp)).mono ?_
  rintro e w2 ⟨rfl, b2⟩
  have B3 : Hid (Below w.heap.size w w2) := bthen B2.out b2
  obtain ⟨g0, g1⟩ := (N2.out.below b2).cell
  obtain ⟨f0, f1⟩ := (N2.out.below b2).frozen
  clear b2 N2 B2
  go_wp2_with fail
  refine bodyPost_ret (v := .tuple #[.agg #[.slice none 0 0, .int .i64 0], .int .i64 (lk n es [s, t])]) ?_ rfl ?_
  · simp [results, Try.results54, go_sem, *]
  · exact ⟨rfl, Below.setCell (Below.setCell B3.out (by simp) _) (by simp) _⟩

theorem lk_two {N s t : Nat} {es : List E} (hc : nps N es = 0) (hs : s < N) (ht : t < N) : lk N es [(s : Int), (t : Int)] = 0 := lk_ok hc (fun k hk => by
  rcases (show k = 0 ∨ k = 1 by simp at hk; omega) with rfl | rfl
  · exact plc_yes (by simp) (by simpa using hs)
  · exact plc_yes (by simp) (by simpa using ht))

/-- What Way answers where all is right: costs d; none, if it is far; else the way back. -/
structure Wy (N : Nat) (es : List E) (s t : Nat) (w w' : World) (e : Ending) : Prop where
  is : ∃ d, IsD N es s d ∧ ((d t = 1099511627776 ∧ e = .returned (.tuple #[.agg #[.slice none 0 0, .int .i64 0], .int .i64 5])) ∨ (d t < 1099511627776 ∧ ∃ g cap k, e = .returned (.tuple #[.agg #[.slice (some ⟨g, 0, none⟩) (k + 1) cap, .int .i64 (d t)], .int .i64 0]) ∧ Bk N es s d t k ∧ anc (ah N es d) t k = s ∧ Is w' w.heap.size (.slice (some ⟨g, 0, none⟩) (k + 1) cap) (bp (ah N es d) t k).reverse))

set_option maxRecDepth 100000 in
set_option maxHeartbeats 8000000 in
theorem way_any (N s t : Nat) (v : Value) (es : List E) (w : World) (hv : SlE w v es) (hc : nps N es = 0) (hp : Pn N es) (hs : s < N) (ht : t < N) :
    Calls Try.prog 54 #[.agg #[.int .i64 N, v], .int .i64 s, .int .i64 t] w fun e w' => Wy N es s t w w' e ∧ Below w.heap.size w w' := by
  obtain ⟨a0, c0, rfl⟩ := hv.val
  have HV : Hid _ := hv
  have HP : Hid _ := hp
  have hlen := hp.len
  have HK : Hid _ := lk_two hc hs ht
  have htN : (t : Int) < (N : Int) := by omega
  clear hv hc hp
  go_enter Try.func54, Try.ntmps54
  go_wp2_with fail
  have P0 : Hid _ := box2_new w (N : Int) (.slice a0 es.length c0) 24
  have B0 : Hid (Below w.heap.size w (w.alloc (.cells #[.int .i64 N, .slice a0 es.length c0] 24))) := balloc (Below.refl _ _) _
  have hz0 : (w.alloc (.cells #[.int .i64 N, .slice a0 es.length c0] 24)).heap.size = w.heap.size + 1 := by simp
  generalize w.alloc (.cells #[.int .i64 N, .slice a0 es.length c0] 24) = W0 at *
  have N1 : Hid _ := bwy_new W0 (.slice none 0 0) (.int .i64 0)
  rw [hz0] at N1
  have P1 : Hid _ := P0.out.below (balloc (Below.refl _ _) (.cells #[.slice none 0 0, .int .i64 0] 27))
  have B1 : Hid (Below w.heap.size w (W0.alloc (.cells #[.slice none 0 0, .int .i64 0] 27))) := balloc B0.out _
  have hz1 : (W0.alloc (.cells #[.slice none 0 0, .int .i64 0] 27)).heap.size = w.heap.size + 1 + 1 := by simp; omega
  generalize W0.alloc (.cells #[.slice none 0 0, .int .i64 0] 27) = W1 at *
  have L1 : Hid _ := lit_nums W1 [(s : Int), (t : Int)] #[.int .i64 s, .int .i64 t] 2 rfl rfl
  rw [hz1] at L1
  have N2 : Hid _ := N1.out.below (balloc (Below.refl _ _) (.cells #[.int .i64 s, .int .i64 t] 3))
  have P2 : Hid _ := P1.out.below (balloc (Below.refl _ _) (.cells #[.int .i64 s, .int .i64 t] 3))
  have B2 : Hid (Below w.heap.size w (W1.alloc (.cells #[.int .i64 s, .int .i64 t] 3))) := balloc B1.out _
  generalize W1.alloc (.cells #[.int .i64 s, .int .i64 t] 3) = W2 at *
  clear hz0 hz1 P0 B0 P1 B1 N1
  refine (look_any N _ _ es [(s : Int), (t : Int)] W2 (HV.out.below B2.out) L1.out (by omega) (by simp)).mono ?_
  rintro e w3 ⟨rfl, b3⟩
  rw [HK.out]
  have B3 : Hid (Below w.heap.size w w3) := bthen B2.out b3
  have P3 : Hid _ := P2.out.below b3
  have N3 : Hid _ := N2.out.below b3
  obtain ⟨p0, p1⟩ := P3.out
  clear b3 P2 B2 N2 L1
  go_wp2_with fail
  refine (costs_any N s _ es w3 (HV.out.below B3.out) HP.out hs).mono ?_
  rintro e w4 ⟨G, d, rfl, hG, u4, d4, b4⟩
  have hG1 : ¬ G = w.heap.size + 1 := by have := N3.out.lt; omega
  have hG2 : ¬ w.heap.size + 1 = G := by omega
  clear hG
  have U4 : Hid _ := u4
  have D4 : Hid _ := d4
  have P4 : Hid _ := P3.out.below b4
  have N4 : Hid _ := N3.out.below b4
  have B4 : Hid (Below w.heap.size w w4) := bthen B3.out b4
  have hd0 := d4.lo t ht
  have hd1 := d4.hi t ht
  have hF : far = 1099511627776 := rfl
  rw [hF] at hd1
  obtain ⟨c1, _⟩ := u4.cell t ht
  clear u4 d4 b4 p0 p1 P3 B3 N3 hF
  by_cases hf : d t < 1099511627776
  · have HDT : Hid _ := hf
    have hfb : (d t == 1099511627776) = false := by simp; omega
    obtain ⟨p0, p1⟩ := P4.out
    obtain ⟨x, hx⟩ : ∃ x, d t = x := ⟨_, rfl⟩
    have HX : Hid _ := hx
    rw [hx] at c1 hfb hd0 hd1
    clear hf hx
    have c2 := c1
    have C1 : Hid _ := c1
    have HBA : Hid _ := fun w' (hb : Below w4.heap.size w4 w') => dback_any N s t G (.slice a0 es.length c0) es d w' (HV.out.below (bthen B4.out hb)) HP.out D4.out (U4.out.below hb) ht HDT.out
    go_wp2_with fail
    go_region_held3 (fun w' => w'.cell? ⟨w.heap.size, 0, none⟩ = some (.int .i64 N) ∧ w'.cell? ⟨w.heap.size, 1, none⟩ = some (.slice a0 es.length c0) ∧ w'.cell? ⟨G, t, none⟩ = some (.int .i64 x)) (first | go_keep | exact KEEP.out)
      (first
       | (go_at_call 82; refine (HBA.out _ (by exact Below.drew (Below.refl _ _))).mono ?_; rintro e w5 ⟨g5, cap5, k5, rfl, bk5, an5, i5, b5⟩; have BK5 : Hid _ := bk5; have AN5 : Hid _ := an5; have I5 : Hid (Is w5 w4.heap.size _ _) := i5; have BB : Hid (Below w4.heap.size w4 w5) := (by exact bthen (Below.drew (Below.refl _ _)) b5); clear bk5 an5 i5 b5; have KEEP : Hid (w5.cell? ⟨w.heap.size, 0, none⟩ = some (.int .i64 N) ∧ w5.cell? ⟨w.heap.size, 1, none⟩ = some (.slice a0 es.length c0) ∧ w5.cell? ⟨G, t, none⟩ = some (.int .i64 x)) := ⟨kept BB.out P4.out.g0, kept BB.out P4.out.g1, kept BB.out C1.out⟩; obtain ⟨g0, g1⟩ := (N4.out.below BB.out).cell; obtain ⟨f0, f1⟩ := (N4.out.below BB.out).frozen)
       | fail)
    all_goals
      go_wp2_with fail
      have hl4 := N4.out.lt
      have hs4 := B4.out.size
      refine bodyPost_ret (v := .tuple #[.agg #[.slice (some ⟨g5, 0, none⟩) (k5 + 1) cap5, .int .i64 x], .int .i64 0]) ?_ rfl ?_
      · simp [results, Try.results54, go_sem, *]
      · exact ⟨⟨d, D4.out, .inr ⟨HDT.out, g5, cap5, k5, by rw [HX.out], BK5.out, AN5.out, ((I5.out.other hl4).other hl4).mono hs4⟩⟩, Below.setCell (Below.setCell (bthen B4.out BB.out) (by simp) _) (by simp) _⟩
  · have HE : Hid (d t = 1099511627776) := by unfold Hid; omega
    rw [HE.out] at c1
    clear hf hd0 hd1
    obtain ⟨g0, g1⟩ := N4.out.cell
    obtain ⟨f0, f1⟩ := N4.out.frozen
    go_wp2_with fail
    refine bodyPost_ret (v := .tuple #[.agg #[.slice none 0 0, .int .i64 0], .int .i64 5]) ?_ rfl ?_
    · simp [results, Try.results54, go_sem, *]
    · exact ⟨⟨d, D4.out, .inl ⟨HE.out, rfl⟩⟩, Below.setCell (Below.setCell B4.out (by simp) _) (by simp) _⟩
end Go.Proofs.Ytefikbjjdldomaa

namespace Go.Proofs.Ytefikbjjdldomaa
open Go.RowKit
open Nm Wm Dm Cm Ym
attribute [local go_sem ↓] Go.wp_at_zero Go.wp_at_succ

theorem isd_two {d : Nat → Int} (h : IsD 2 [(0, 1, 5)] 0 d) : d 1 = 5 := by
  have h0 := h.s0
  have hF : far = 1099511627776 := rfl
  have h1 := h.rel (0, 1, 5) (by simp) (by show d 0 < far; omega)
  have h2 : d 1 ≤ d 0 + 5 := h1
  obtain ⟨e, he, h3, _, h4⟩ := h.sup 1 (by omega) (by omega) (by omega)
  rw [List.mem_singleton.1 he] at h4
  have h5 : d 0 + 5 = d 1 := h4
  omega
set_option maxRecDepth 100000 in
set_option maxHeartbeats 8000000 in
theorem begun_any (w : World) : Calls Try.prog 32 #[] w fun e w' => e = .returned (.bool true) ∧ Below w.heap.size w w' := by
  go_enter Try.func32, Try.ntmps32
  go_wp2_with fail
  have E1 : Hid _ := lit_edges w [(0, 1, 5)] #[.int .i64 0, .int .i64 1, .int .i64 5] 1 rfl rfl
  have B1 : Hid (Below w.heap.size w (w.alloc (.cells #[.int .i64 0, .int .i64 1, .int .i64 5] 66))) := balloc (Below.refl _ _) _
  generalize w.alloc (.cells #[.int .i64 0, .int .i64 1, .int .i64 5] 66) = W1 at *
  refine (way_any 2 0 1 _ _ W1 E1.out nps_two pn_two (by omega) (by omega)).mono ?_
  rintro e w2 ⟨⟨d, hd, hor⟩, b2⟩
  have B2 : Hid (Below w.heap.size w w2) := bthen B1.out b2
  have h5 := isd_two hd
  rw [h5] at hor
  obtain ⟨g, cap, k, rfl, -⟩ := (hor.resolve_left (fun h => absurd h.1 (by decide))).2
  clear hor hd h5 b2 E1 B1
  go_wp2_with fail
  go_ret
  exact ⟨rfl, balloc B2.out _⟩
end Go.Proofs.Ytefikbjjdldomaa

