/-
  Contracts: slices.Min and slices.Max; the document's question of an edge; IndexFunc and ContainsFunc with it.
-/
import Derived.Test.YtefikbjjdldomaaEB
namespace Go.Proofs.Ytefikbjjdldomaa
open Go.RowKit
open Nm Wm Dm
attribute [local go_sem ↓] Go.wp_at_zero Go.wp_at_succ

/-- The least and the greatest of the first k. -/
def mn (p : List Int) : Nat → Int
  | 0 => p.getD 0 0
  | k + 1 => min (mn p k) (p.getD k 0)
def mx (p : List Int) : Nat → Int
  | 0 => p.getD 0 0
  | k + 1 => max (mx p k) (p.getD k 0)
theorem mn_le {p : List Int} {k i : Nat} (h : i < k) : mn p k ≤ p.getD i 0 := by
  induction k with
  | zero => omega
  | succ k ih =>
    rw [mn]
    rcases (show i < k ∨ i = k by omega) with h1 | rfl
    · have := ih h1; omega
    · omega
theorem mn_at (p : List Int) (k : Nat) (hk : k ≤ p.length) (h0 : 0 < p.length) : ∃ i, i < p.length ∧ mn p k = p.getD i 0 := by
  induction k with
  | zero => exact ⟨0, h0, rfl⟩
  | succ k ih =>
    rw [mn]
    obtain ⟨i, hi, he⟩ := ih (by omega)
    rcases (show min (mn p k) (p.getD k 0) = mn p k ∨ min (mn p k) (p.getD k 0) = p.getD k 0 by omega) with h | h
    · exact ⟨i, hi, by rw [h, he]⟩
    · exact ⟨k, by omega, h⟩
theorem mx_ge {p : List Int} {k i : Nat} (h : i < k) : p.getD i 0 ≤ mx p k := by
  induction k with
  | zero => omega
  | succ k ih =>
    rw [mx]
    rcases (show i < k ∨ i = k by omega) with h1 | rfl
    · have := ih h1; omega
    · omega
theorem mx_at (p : List Int) (k : Nat) (hk : k ≤ p.length) (h0 : 0 < p.length) : ∃ i, i < p.length ∧ mx p k = p.getD i 0 := by
  induction k with
  | zero => exact ⟨0, h0, rfl⟩
  | succ k ih =>
    rw [mx]
    obtain ⟨i, hi, he⟩ := ih (by omega)
    rcases (show max (mx p k) (p.getD k 0) = mx p k ∨ max (mx p k) (p.getD k 0) = p.getD k 0 by omega) with h | h
    · exact ⟨i, hi, by rw [h, he]⟩
    · exact ⟨k, by omega, h⟩
set_option maxRecDepth 100000 in
set_option maxHeartbeats 8000000 in
theorem min_any (p : List Int) (v : Value) (w : World) (hv : SlI w v p) (h0 : 0 < p.length) (hl : p.length ≤ 100) :
    Calls Try.prog 60 #[v] w fun e w' => e = .returned (.int .i64 (mn p p.length)) ∧ w' = w := by
  obtain ⟨b, off, cap, rfl, hcl, hcap⟩ := hv.some2 h0
  have HCL : Hid (∀ i, i < p.length → w.cell? ⟨b, off + i, none⟩ = some (.int .i64 (p.getD i 0))) := hcl
  have d0 := hcl 0 h0
  rw [Nat.add_zero] at d0
  have h0i : ¬ (p.length : Int) < 1 := by omega
  have h0j : (0 : Int) < (p.length : Int) := by omega
  have H1 : Hid (mn p 1 = p.getD 0 0) := by unfold Hid mn mn; omega
  clear hv hcl
  go_enter Try.func60, Try.ntmps60
  go_wp2_with fail
  clear d0
  go_loop [4, 3] (fun z m => ∃ k : Nat, z = .int .i64 k ∧ 1 ≤ k ∧ k ≤ p.length ∧ m = .int .i64 (mn p k)) (fun z _ => p.length - (intOf z).toNat)
  case atStart => exact ⟨1, rfl, by omega, by omega, by rw [H1.out]; simp [List.getD_eq_getElem?_getD, h0]⟩
  case round =>
    obtain ⟨k, rfl, hk1, hk, rfl⟩ := hrel
    by_cases hlt : k < p.length
    · have hki : (k : Int) < (p.length : Int) := by omega
      have d0 := HCL.out k hlt
      have HN : Hid (mn p (k + 1) = min (mn p k) (p.getD k 0)) := rfl
      generalize p.getD k 0 = x at *
      generalize mn p k = m at *
      rcases (show m < x ∨ x < m ∨ m = x by omega) with h | h | h
      · have HF : Hid (mn p (k + 1) = m) := by have := HN.out; unfold Hid; omega
        go_wp2_with fail
        go_round
        case rel => exact ⟨k + 1, by go_num, by omega, by omega, by rw [HF.out]⟩
        case measure => simp [intOf]; omega
      · have HF : Hid (mn p (k + 1) = x) := by have := HN.out; unfold Hid; omega
        go_wp2_with fail
        go_round
        case rel => exact ⟨k + 1, by go_num, by omega, by omega, by rw [HF.out]⟩
        case measure => simp [intOf]; omega
      · subst h
        have HF : Hid (mn p (k + 1) = m) := by have := HN.out; unfold Hid; omega
        go_wp2_with fail
        go_round
        case rel => exact ⟨k + 1, by go_num, by omega, by omega, by rw [HF.out]⟩
        case measure => simp [intOf]; omega
    · have hke : k = p.length := by omega
      subst hke
      go_wp2_with fail
      go_ret
      exact ⟨rfl, rfl⟩
set_option maxRecDepth 100000 in
set_option maxHeartbeats 8000000 in
theorem max_any (p : List Int) (v : Value) (w : World) (hv : SlI w v p) (h0 : 0 < p.length) (hl : p.length ≤ 100) :
    Calls Try.prog 61 #[v] w fun e w' => e = .returned (.int .i64 (mx p p.length)) ∧ w' = w := by
  obtain ⟨b, off, cap, rfl, hcl, hcap⟩ := hv.some2 h0
  have HCL : Hid (∀ i, i < p.length → w.cell? ⟨b, off + i, none⟩ = some (.int .i64 (p.getD i 0))) := hcl
  have d0 := hcl 0 h0
  rw [Nat.add_zero] at d0
  have h0i : ¬ (p.length : Int) < 1 := by omega
  have h0j : (0 : Int) < (p.length : Int) := by omega
  have H1 : Hid (mx p 1 = p.getD 0 0) := by unfold Hid mx mx; omega
  clear hv hcl
  go_enter Try.func61, Try.ntmps61
  go_wp2_with fail
  clear d0
  go_loop [4, 3] (fun z m => ∃ k : Nat, z = .int .i64 k ∧ 1 ≤ k ∧ k ≤ p.length ∧ m = .int .i64 (mx p k)) (fun z _ => p.length - (intOf z).toNat)
  case atStart => exact ⟨1, rfl, by omega, by omega, by rw [H1.out]; simp [List.getD_eq_getElem?_getD, h0]⟩
  case round =>
    obtain ⟨k, rfl, hk1, hk, rfl⟩ := hrel
    by_cases hlt : k < p.length
    · have hki : (k : Int) < (p.length : Int) := by omega
      have d0 := HCL.out k hlt
      have HN : Hid (mx p (k + 1) = max (mx p k) (p.getD k 0)) := rfl
      generalize p.getD k 0 = x at *
      generalize mx p k = m at *
      rcases (show m < x ∨ x < m ∨ m = x by omega) with h | h | h
      · have HF : Hid (mx p (k + 1) = x) := by have := HN.out; unfold Hid; omega
        go_wp2_with fail
        go_round
        case rel => exact ⟨k + 1, by go_num, by omega, by omega, by rw [HF.out]⟩
        case measure => simp [intOf]; omega
      · have HF : Hid (mx p (k + 1) = m) := by have := HN.out; unfold Hid; omega
        go_wp2_with fail
        go_round
        case rel => exact ⟨k + 1, by go_num, by omega, by omega, by rw [HF.out]⟩
        case measure => simp [intOf]; omega
      · subst h
        have HF : Hid (mx p (k + 1) = m) := by have := HN.out; unfold Hid; omega
        go_wp2_with fail
        go_round
        case rel => exact ⟨k + 1, by go_num, by omega, by omega, by rw [HF.out]⟩
        case measure => simp [intOf]; omega
    · have hke : k = p.length := by omega
      subst hke
      go_wp2_with fail
      go_ret
      exact ⟨rfl, rfl⟩

theorem mn_mx {l : List Int} (h0 : 0 < l.length) : l.all isc = true ↔ ¬ mn l l.length < 0 ∧ ¬ 1099511627776 < mx l l.length := by
  rw [getD_all]
  constructor
  · intro h
    obtain ⟨i, hi, e1⟩ := mn_at l l.length (Nat.le_refl _) h0
    obtain ⟨j, hj, e2⟩ := mx_at l l.length (Nat.le_refl _) h0
    rw [e1, e2]
    have := of_decide_eq_true (h i hi)
    have := of_decide_eq_true (h j hj)
    omega
  · intro h k hk
    have := mn_le (p := l) hk
    have := mx_ge (p := l) hk
    exact decide_eq_true (by omega)

/-- What the question leans on: the guesses. -/
structure Gq (w : World) (V : Nat) (h : List Int) : Prop where
  ex : ∃ u : Value, w.cell? ⟨V, 0, none⟩ = some u ∧ SlI w u h
theorem Gq.below {w w' : World} {V : Nat} {h : List Int} (hc : Gq w V h) (hb : Below w.heap.size w w') : Gq w' V h := by
  obtain ⟨u, h1, h2⟩ := hc.ex
  exact ⟨u, kept hb h1, h2.below hb⟩

set_option maxRecDepth 100000 in
set_option maxHeartbeats 8000000 in
theorem askg_any (V x y : Nat) (c : Int) (h : List Int) (w : World) (hc : Gq w V h) (hx : x < h.length) (hy : y < h.length) (hh : ∀ k, k < h.length → 0 ≤ h.getD k 0 ∧ h.getD k 0 ≤ 1099511627776) (hc0 : 1 ≤ c) (hc1 : c ≤ 10000) :
    Calls Try.prog 63 #[.agg #[.int .i64 x, .int .i64 y, .int .i64 c], .pointer (some ⟨V, 0, none⟩)] w fun e w' => e = .returned (.bool (dear h ((x : Int), (y : Int), c))) ∧ Below w.heap.size w w' := by
  have HC : Hid _ := hc.below (balloc (Below.refl _ _) (.cells #[.int .i64 x, .int .i64 y, .int .i64 c] 66))
  have B0 : Hid (Below w.heap.size w (w.alloc (.cells #[.int .i64 x, .int .i64 y, .int .i64 c] 66))) := balloc (Below.refl _ _) _
  have HQ : Hid (dear h ((x : Int), (y : Int), c) = decide (c + h.getD y 0 < h.getD x 0)) := by unfold Hid dear; simp only [Int.toNat_natCast]
  obtain ⟨y0, y1, y2⟩ := box3_new w x y (.int .i64 c) 66
  obtain ⟨u, v0, hu⟩ := HC.out.ex
  obtain ⟨g1, g2⟩ := hh x hx
  obtain ⟨g3, g4⟩ := hh y hy
  clear hc hh
  obtain ⟨b2, off2, cap2, rfl, hcl⟩ := hu.some' (by omega)
  have l1 := hcl x hx
  have l2 := hcl y hy
  have hxi : (x : Int) < (h.length : Int) := by omega
  have hyi : (y : Int) < (h.length : Int) := by omega
  clear hcl hu
  go_enter Try.func63, Try.ntmps63
  go_wp2_with fail
  generalize w.alloc (.cells #[.int .i64 x, .int .i64 y, .int .i64 c] 66) = W0 at *
  obtain ⟨p, hpe⟩ : ∃ p, h.getD x 0 = p := ⟨_, rfl⟩
  rw [hpe] at HQ g1 g2 l1
  obtain ⟨q, hqe⟩ : ∃ q, h.getD y 0 = q := ⟨_, rfl⟩
  rw [hqe] at HQ g3 g4 l2
  by_cases hpq : c + q < p
  · have HF : Hid (dear h ((x : Int), (y : Int), c) = true) := by rw [HQ.out]; exact decide_eq_true hpq
    have hpq2 : q < p - c := by omega
    clear HQ hpq hpe hqe
    go_quiet (fail)
    go_wp2_with fail
    go_ret
    exact ⟨ret_bool HF.out.symm, bdrewN B0.out _⟩
  · have HF : Hid (dear h ((x : Int), (y : Int), c) = false) := by rw [HQ.out]; exact decide_eq_false hpq
    have hpq2 : ¬ q < p - c := by omega
    clear HQ hpq hpe hqe
    go_quiet (fail)
    go_wp2_with fail
    go_ret
    exact ⟨ret_bool HF.out.symm, bdrewN B0.out _⟩

/-- What IndexFunc answers: an index, below 0 just if no edge is dear. -/
structure Ix (h : List Int) (es : List E) (e : Ending) : Prop where
  is : ∃ j : Int, e = .returned (.int .i64 j) ∧ -1 ≤ j ∧ j ≤ 600 ∧ (0 ≤ j ↔ es.any (dear h) = true)
set_option maxRecDepth 100000 in
set_option maxHeartbeats 8000000 in
theorem idxg_any (N V : Nat) (v : Value) (es : List E) (h : List Int) (w : World) (hv : SlE w v es) (hp : Pn N es) (hc : Gq w V h) (hl : h.length = N) (hh : ∀ k, k < h.length → 0 ≤ h.getD k 0 ∧ h.getD k 0 ≤ 1099511627776) :
    Calls Try.prog 90 #[v, .func (.func 63) #[] #[.pointer (some ⟨V, 0, none⟩)]] w fun e w' => Ix h es e ∧ Below w.heap.size w w' := by
  obtain ⟨a0, c0, rfl⟩ := hv.val
  have HV : Hid _ := hv
  have HC : Hid _ := hc
  have HP : Hid _ := hp
  have HH : Hid _ := hh
  have hlen := hp.len
  clear hv hc hp hh
  go_enter Try.func90, Try.ntmps90
  go_wp2_with fail
  go_loopw [8] (fun z wr => ∃ k : Nat, z = .int .i64 k ∧ k ≤ es.length ∧ (∀ i', i' < k → dear h (at3 es i') = false) ∧ Below w.heap.size w wr) (fun z _ => es.length - (intOf z).toNat)
  case atStart => exact ⟨0, rfl, Nat.zero_le _, fun i hi => absurd hi (by omega), Below.refl _ _⟩
  case round =>
    obtain ⟨k, rfl, hk, he, hb⟩ := hrel
    have HE : Hid _ := he
    have HB : Hid (Below w.heap.size w wr) := hb
    clear he hb
    by_cases hlt : k < es.length
    · have hki : (k : Int) < (es.length : Int) := by omega
      obtain ⟨b, off, cap, hveq, hcl⟩ := (HV.out.below HB.out).some' (by omega)
      simp only [Value.slice.injEq] at hveq
      obtain ⟨rfl, -, rfl⟩ := hveq
      obtain ⟨d0, d1, d2⟩ := hcl k hlt
      clear hcl
      obtain ⟨p, hpe⟩ : ∃ p, at3 es k = p := ⟨_, rfl⟩
      rw [hpe] at d0 d1 d2
      have HPE : Hid _ := hpe
      clear hpe
      have hok := HP.out.ok _ (mem_at hlt)
      rw [HPE.out] at hok
      obtain ⟨px, py, pz⟩ := p
      simp only at d0 d1 d2 hok
      obtain ⟨ok1, ok2, ok3, ok4, ok5, ok6⟩ := hok
      obtain ⟨px, rfl⟩ := Int.eq_ofNat_of_zero_le ok1
      obtain ⟨py, rfl⟩ := Int.eq_ofNat_of_zero_le ok3
      have hpx : px < h.length := by omega
      have hpy : py < h.length := by omega
      go_wp2_with fail
      refine (askg_any V px py pz h wr (HC.out.below HB.out) hpx hpy HH.out ok5 ok6).mono ?_
      rintro e w2 ⟨rfl, b2⟩
      have B2 : Hid (Below w.heap.size w w2) := bthen HB.out b2
      clear b2
      obtain ⟨bq, hbq⟩ : ∃ bq, dear h ((px : Int), (py : Int), pz) = bq := ⟨_, rfl⟩
      rw [hbq]
      have HQ : Hid (dear h (at3 es k) = bq) := by rw [HPE.out]; exact hbq
      clear hbq
      cases bq
      · go_wp2_with fail
        go_roundw
        case rel =>
          refine ⟨k + 1, by go_num, by omega, fun i' hi' => ?_, B2.out⟩
          rcases (show i' < k ∨ i' = k by omega) with h | rfl
          · exact HE.out i' h
          · exact HQ.out
        case measure => simp [intOf]; omega
      · go_wp2_with fail
        go_ret
        exact ⟨⟨⟨k, rfl, by omega, by omega, fun _ => List.any_eq_true.2 ⟨_, mem_at hlt, HQ.out⟩, fun _ => by omega⟩⟩, B2.out⟩
    · go_wp2_with fail
      go_ret
      refine ⟨⟨⟨-1, rfl, by omega, by omega, fun h => absurd h (by omega), fun h0 => ?_⟩⟩, HB.out⟩
      exfalso
      obtain ⟨e, hem, hq⟩ := List.any_eq_true.1 h0
      obtain ⟨j, hj, rfl⟩ := List.mem_iff_getElem.1 hem
      have e3 : at3 es j = es[j] := by unfold at3; simp [hj]
      have := HE.out j (by omega)
      rw [e3, hq] at this; cases this
set_option maxRecDepth 100000 in
set_option maxHeartbeats 8000000 in
theorem cong_any (N V : Nat) (v : Value) (es : List E) (h : List Int) (w : World) (hv : SlE w v es) (hp : Pn N es) (hc : Gq w V h) (hl : h.length = N) (hh : ∀ k, k < h.length → 0 ≤ h.getD k 0 ∧ h.getD k 0 ≤ 1099511627776) :
    Calls Try.prog 62 #[v, .func (.func 63) #[] #[.pointer (some ⟨V, 0, none⟩)]] w fun e w' => e = .returned (.bool (es.any (dear h))) ∧ Below w.heap.size w w' := by
  obtain ⟨a0, c0, rfl⟩ := hv.val
  have HI : Hid _ := fun (_ : Unit) => idxg_any N V (.slice a0 es.length c0) es h w hv hp hc hl hh
  clear hv hp hc hl hh
  go_enter Try.func62, Try.ntmps62
  go_wp2_with fail
  refine (HI.out ()).mono ?_
  rintro e w1 ⟨⟨⟨j, rfl, hj1, hj2, hj⟩⟩, b1⟩
  have B1 : Hid _ := b1
  by_cases h0 : 0 ≤ j
  · have HF : Hid _ := hj.1 h0
    clear b1 hj
    go_wp2_with fail
    go_ret
    exact ⟨ret_bool HF.out.symm, B1.out⟩
  · have HF : Hid (es.any (dear h) = false) := by
      cases e : es.any (dear h)
      · rfl
      · exact absurd (hj.2 e) h0
    clear b1 hj
    go_wp2_with fail
    go_ret
    exact ⟨ret_bool (by rw [HF.out]; exact decide_eq_false (by omega)), B1.out⟩
end Go.Proofs.Ytefikbjjdldomaa
