/-
  Plain walks by heights: each costs the height of its beginning more, and that of its end less. No Go in sight.
-/
import Derived.Test.YtidbbkpgmcheiaaJm
namespace Go.Proofs.Ytidbbkpgmcheiaa.Jn
open Nm Wm Dm Bm Jm

theorem wc_bound {n : Int} {es : List E} (hg : Gn n es) (p : List Int) : ∀ s, wc es p = some s → -10000 * (p.length : Int) ≤ s ∧ s ≤ 10000 * (p.length : Int) := by
  induction p with
  | nil => intro s h; cases h
  | cons u r ih =>
    intro s h
    cases r with
    | nil => cases h; simp
    | cons v r =>
      cases hc : chp u v es with
      | none => rw [wc_gone hc] at h; cases h
      | some c =>
        rw [wc_on hc] at h
        cases h2 : wc es (v :: r) with
        | none => rw [h2] at h; cases h
        | some t =>
          rw [h2] at h
          simp at h
          have h3 := ih t h2
          have h4 := chp_bound' hg hc
          simp only [List.length_cons] at h3 ⊢
          omega
theorem wcode_bound (n : Int) (es : List E) (p : List Int) : -1000000 ≤ (wcode n es p).1 ∧ (wcode n es p).1 ≤ 1000000 := by
  by_cases h : (wcode n es p).2 = 0
  · obtain ⟨h0, h1, h2, h3, h4⟩ := wcode_ok h
    have := wc_bound (nck_zero.1 h0) p _ h4
    omega
  · rw [wcode_bad h]; omega

theorem chp_lvl (hs : List Int) (u v : Int) (es : List E) : chp u v (es.map (lvl hs)) = (chp u v es).map (fun c => c + hs.getD u.toNat 0 - hs.getD v.toNat 0) := by
  cases h : chp u v es with
  | none =>
    cases h' : chp u v (es.map (lvl hs)) with
    | none => rfl
    | some c =>
      obtain ⟨⟨e, he, h1, h2, _⟩, _⟩ := chp_some h'
      obtain ⟨e0, he0, rfl⟩ := List.mem_map.1 he
      exact absurd ⟨h1, h2⟩ (chp_none h e0 he0)
  | some c =>
    obtain ⟨⟨e, he, h1, h2, h3⟩, h4⟩ := chp_some h
    rw [Option.map_some]
    refine chp_of ⟨lvl hs e, List.mem_map.2 ⟨e, he, rfl⟩, h1, h2, by unfold lvl; simp only; rw [h1, h2, h3]⟩ (fun x hx g1 g2 => ?_)
    obtain ⟨e0, he0, rfl⟩ := List.mem_map.1 hx
    have := h4 e0 he0 g1 g2
    unfold lvl at *
    simp only at *
    rw [g1, g2]
    omega
theorem wc_lvl (hs : List Int) (es : List E) (p : List Int) : wc (es.map (lvl hs)) p = (wc es p).map (fun s => s + hs.getD (p.getD 0 0).toNat 0 - hs.getD (p.getD (p.length - 1) 0).toNat 0) := by
  induction p with
  | nil => rfl
  | cons u r ih =>
    cases r with
    | nil => rw [wc_one, wc_one]; simp
    | cons v r =>
      have hl : (u :: v :: r).getD ((u :: v :: r).length - 1) 0 = (v :: r).getD ((v :: r).length - 1) 0 := by
        simp [List.getD_eq_getElem?_getD]
      rw [hl]
      have hc := chp_lvl hs u v es
      cases h : chp u v es with
      | none =>
        rw [h] at hc
        rw [wc_gone hc, wc_gone h]; rfl
      | some c =>
        rw [h] at hc
        rw [wc_on hc, wc_on h, ih]
        cases wc es (v :: r) with
        | none => rfl
        | some s =>
          simp only [Option.map_some, List.getD_cons_zero]
          congr 1
          omega
theorem gn_lvl {n : Int} {es : List E} {hs : List Int} (hg : Gn n es) (h : fch (es.map (lvl hs)) = 0) : Gn n (es.map (lvl hs)) := by
  refine ⟨hg.n1, hg.n64, by rw [List.length_map]; exact hg.len, fun e he => ?_⟩
  have h1 := fch_zero h e he
  obtain ⟨e0, he0, rfl⟩ := List.mem_map.1 he
  have h2 := hg.ok e0 he0
  have h3 : (lvl hs e0).1 = e0.1 := rfl
  have h4 : (lvl hs e0).2.1 = e0.2.1 := rfl
  rw [h3, h4]
  omega
theorem wcode_lvl_bad {n : Int} {es : List E} {hs : List Int} (hg : Gn n es) (h : fch (es.map (lvl hs)) = 0) (p : List Int) (hc : (wcode n es p).2 ≠ 0) : (wcode n (es.map (lvl hs)) p).2 = (wcode n es p).2 := by
  have h0 := nck_zero.2 hg
  have h0' := nck_zero.2 (gn_lvl hg h)
  by_cases h1 : p.length = 0
  · rw [wcode_nil h0 h1, wcode_nil h0' h1]
  · by_cases h2 : 100 < p.length
    · rw [wcode_long h0 h2, wcode_long h0' h2]
    · cases h3 : p.all (plc n)
      · rw [wcode_out h0 h1 h2 h3, wcode_out h0' h1 h2 h3]
      · cases h4 : wc es p with
        | none => rw [wcode_none h0 h1 h2 h3 h4, wcode_none h0' h1 h2 h3 (by rw [wc_lvl, h4]; rfl)]
        | some s => rw [wcode_some h0 h1 h2 h3 h4] at hc; exact absurd rfl hc
theorem wcode_lvl_ok {n : Int} {es : List E} {hs : List Int} (hg : Gn n es) (h : fch (es.map (lvl hs)) = 0) (p : List Int) (hc : (wcode n es p).2 = 0) : wcode n (es.map (lvl hs)) p = ((wcode n es p).1 + hs.getD (p.getD 0 0).toNat 0 - hs.getD (p.getD (p.length - 1) 0).toNat 0, 0) := by
  obtain ⟨h0, h1, h2, h3, h4⟩ := wcode_ok hc
  exact wcode_some (nck_zero.2 (gn_lvl hg h)) h1 (by omega) h3 (by rw [wc_lvl, h4]; rfl)
end Go.Proofs.Ytidbbkpgmcheiaa.Jn
