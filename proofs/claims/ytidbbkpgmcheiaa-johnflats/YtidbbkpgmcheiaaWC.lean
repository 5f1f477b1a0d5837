/-
  Contracts: the document's edge, least and greatest.
-/
import Derived.Test.YtidbbkpgmcheiaaWA
namespace Go.Proofs.Ytidbbkpgmcheiaa
open Go.RowKit
open Nm Wm
attribute [local go_sem ↓] Go.wp_at_zero Go.wp_at_succ

set_option maxRecDepth 100000 in
set_option maxHeartbeats 8000000 in
theorem redge_any (n u x : Int) (v : Value) (es : List E) (w : World) (hv : SlE w v es) (hg : Gn n es) :
    Calls Try.prog 56 #[.agg #[.int .i64 n, v], .int .i64 u, .int .i64 x] w fun e w' => e = .returned (.int .i64 (edg u x es)) ∧ Below w.heap.size w w' := by
  obtain ⟨a0, c0, rfl⟩ := hv.val
  have HV : Hid _ := hv
  have HG : Hid _ := hg
  have hlen := hg.len
  clear hv hg
  go_enter Try.func56, Try.ntmps56
  go_wp2_with fail
  have B0 : Hid (Below w.heap.size w (w.alloc (.cells #[.int .i64 n, .slice a0 es.length c0] 24))) := balloc (Below.refl _ _) _
  generalize w.alloc (.cells #[.int .i64 n, .slice a0 es.length c0] 24) = W0 at *
  have V0 : Hid _ := HV.out.below B0.out
  go_loopw [13, 7] (fun z l wr => ∃ k : Nat, z = .int .i64 k ∧ k ≤ es.length ∧ l = .int .i64 (edg u x (es.take k)) ∧ Below W0.heap.size W0 wr) (fun z _ _ => es.length - (intOf z).toNat)
  case atStart => exact ⟨0, rfl, Nat.zero_le _, rfl, Below.refl _ _⟩
  case round =>
    obtain ⟨k, rfl, hk, rfl, hb⟩ := hrel
    have HB : Hid (Below W0.heap.size W0 wr) := hb
    clear hb
    by_cases hlt : k < es.length
    · have hki : (k : Int) < (es.length : Int) := by omega
      obtain ⟨b, off, cap, hveq, hc⟩ := (V0.out.below HB.out).some' (by omega)
      simp only [Value.slice.injEq] at hveq
      obtain ⟨rfl, -, rfl⟩ := hveq
      obtain ⟨d0, d1, d2⟩ := hc k hlt
      clear hc
      have HN : Hid _ := chp_next u x hlt
      have hz := HG.out.ok _ (mem_at hlt)
      have HBD : Hid _ := fun c => @chp_bound n u x c es HG.out k
      obtain ⟨p, hp⟩ : ∃ p, at3 es k = p := ⟨_, rfl⟩
      rw [hp] at d0 d1 d2 HN hz
      obtain ⟨a, y, z⟩ := p
      simp only at d0 d1 d2 hz
      obtain ⟨-, -, -, -, hz1, hz2⟩ := hz
      clear hp
      have B1 : Hid (Below W0.heap.size W0 (wr.alloc (.cells #[.int .i64 a, .int .i64 y, .int .i64 z] 44))) := balloc HB.out _
      unfold edg
      generalize chp u x (es.take k) = o at *
      by_cases hm : a = u ∧ y = x
      · have hau : (a == u) = true := by simp [hm.1]
        have hyx : (y == x) = true := by simp [hm.2]
        cases o with
        | none =>
          have HF : Hid (chp u x (es.take (k + 1)) = some z) := HN.out.trans (stp_first hm)
          have hzf : z < 1099511627776 := by omega
          clear hm HN
          simp only [Option.getD_none]
          go_wp2_with fail
          go_roundw
          case rel => exact ⟨k + 1, by go_num, by omega, by rw [HF.out]; rfl, B1.out⟩
          case measure => simp [intOf]; omega
        | some c =>
          simp only [Option.getD_some]
          have hcb := HBD.out c rfl
          by_cases hz : z < c
          · have HF : Hid (chp u x (es.take (k + 1)) = some z) := HN.out.trans (stp_less hm hz)
            clear hm HN
            go_wp2_with fail
            go_roundw
            case rel => exact ⟨k + 1, by go_num, by omega, by rw [HF.out]; rfl, B1.out⟩
            case measure => simp [intOf]; omega
          · have HF : Hid (chp u x (es.take (k + 1)) = some c) := HN.out.trans (stp_more hm hz)
            clear hm HN
            by_cases hzc : z = c
            · subst hzc
              go_wp2_with fail
              go_roundw
              case rel => exact ⟨k + 1, by go_num, by omega, by rw [HF.out]; rfl, B1.out⟩
              case measure => simp [intOf]; omega
            · have hzc' : c < z := by omega
              clear hzc
              go_wp2_with fail
              go_roundw
              case rel => exact ⟨k + 1, by go_num, by omega, by rw [HF.out]; rfl, B1.out⟩
              case measure => simp [intOf]; omega
      · have HF : Hid (chp u x (es.take (k + 1)) = o) := HN.out.trans (stp_no hm)
        clear HN
        by_cases h1 : a = u
        · have hau : (a == u) = true := by simp [h1]
          have hyx : (y == x) = false := by simp; exact fun h => hm ⟨h1, h⟩
          clear hm h1
          go_wp2_with fail
          go_roundw
          case rel => exact ⟨k + 1, by go_num, by omega, by rw [HF.out], B1.out⟩
          case measure => simp [intOf]; omega
        · have hau : (a == u) = false := by simp [h1]
          clear hm h1
          go_wp2_with fail
          go_roundw
          case rel => exact ⟨k + 1, by go_num, by omega, by rw [HF.out], B1.out⟩
          case measure => simp [intOf]; omega
    · have hke : k = es.length := by omega
      subst hke
      rw [List.take_length]
      go_wp2_with fail
      go_ret
      exact ⟨rfl, bthen B0.out HB.out⟩

/-- The least and the greatest of the first k. -/
def mn (p : List Int) : Nat → Int
  | 0 => p.getD 0 0
  | k + 1 => min (mn p k) (p.getD k 0)
def mx (p : List Int) : Nat → Int
  | 0 => p.getD 0 0
  | k + 1 => max (mx p k) (p.getD k 0)
theorem mn_le {p : List Int} {k i : Nat} (h : i < k) : mn p k ≤ p.getD i 0 := by
  induction k with
  | zero => omega
  | succ k ih =>
    rw [mn]
    rcases (show i < k ∨ i = k by omega) with h1 | rfl
    · have := ih h1; omega
    · omega
theorem mn_at (p : List Int) (k : Nat) (hk : k ≤ p.length) (h0 : 0 < p.length) : ∃ i, i < p.length ∧ mn p k = p.getD i 0 := by
  induction k with
  | zero => exact ⟨0, h0, rfl⟩
  | succ k ih =>
    rw [mn]
    obtain ⟨i, hi, he⟩ := ih (by omega)
    rcases (show min (mn p k) (p.getD k 0) = mn p k ∨ min (mn p k) (p.getD k 0) = p.getD k 0 by omega) with h | h
    · exact ⟨i, hi, by rw [h, he]⟩
    · exact ⟨k, by omega, h⟩
theorem mx_ge {p : List Int} {k i : Nat} (h : i < k) : p.getD i 0 ≤ mx p k := by
  induction k with
  | zero => omega
  | succ k ih =>
    rw [mx]
    rcases (show i < k ∨ i = k by omega) with h1 | rfl
    · have := ih h1; omega
    · omega
theorem mx_at (p : List Int) (k : Nat) (hk : k ≤ p.length) (h0 : 0 < p.length) : ∃ i, i < p.length ∧ mx p k = p.getD i 0 := by
  induction k with
  | zero => exact ⟨0, h0, rfl⟩
  | succ k ih =>
    rw [mx]
    obtain ⟨i, hi, he⟩ := ih (by omega)
    rcases (show max (mx p k) (p.getD k 0) = mx p k ∨ max (mx p k) (p.getD k 0) = p.getD k 0 by omega) with h | h
    · exact ⟨i, hi, by rw [h, he]⟩
    · exact ⟨k, by omega, h⟩
theorem mn_mx {n : Int} {p : List Int} (h0 : 0 < p.length) : p.all (plc n) = true ↔ ¬ mn p p.length < 0 ∧ ¬ n ≤ mx p p.length := by
  constructor
  · intro h
    rw [List.all_eq_true] at h
    have key : ∀ i, i < p.length → 0 ≤ p.getD i 0 ∧ p.getD i 0 < n := fun i hi => by
      have := h (p.getD i 0) (by simp [List.getD_eq_getElem?_getD, hi])
      exact of_decide_eq_true this
    obtain ⟨i, hi, e1⟩ := mn_at p p.length (Nat.le_refl _) h0
    obtain ⟨j, hj, e2⟩ := mx_at p p.length (Nat.le_refl _) h0
    rw [e1, e2]
    have := key i hi
    have := key j hj
    omega
  · intro h
    refine all_at (fun k hk => plc_yes ?_ ?_)
    · have := mn_le (p := p) hk; omega
    · have := mx_ge (p := p) hk; omega

set_option maxRecDepth 100000 in
set_option maxHeartbeats 8000000 in
theorem min_any (p : List Int) (v : Value) (w : World) (hv : SlI w v p) (h0 : 0 < p.length) (hl : p.length ≤ 100) :
    Calls Try.prog 26 #[v] w fun e w' => e = .returned (.int .i64 (mn p p.length)) ∧ w' = w := by
  obtain ⟨b, off, cap, rfl, hcl, hcap⟩ := hv.some2 h0
  have HCL : Hid (∀ i, i < p.length → w.cell? ⟨b, off + i, none⟩ = some (.int .i64 (p.getD i 0))) := hcl
  have d0 := hcl 0 h0
  rw [Nat.add_zero] at d0
  have h0i : ¬ (p.length : Int) < 1 := by omega
  have h0j : (0 : Int) < (p.length : Int) := by omega
  have H1 : Hid (mn p 1 = p.getD 0 0) := by unfold Hid mn mn; omega
  clear hv hcl
  go_enter Try.func26, Try.ntmps26
  go_wp2_with fail
  clear d0
  go_loop [4, 3] (fun z m => ∃ k : Nat, z = .int .i64 k ∧ 1 ≤ k ∧ k ≤ p.length ∧ m = .int .i64 (mn p k)) (fun z _ => p.length - (intOf z).toNat)
  case atStart => exact ⟨1, rfl, by omega, by omega, by rw [H1.out]; simp [List.getD_eq_getElem?_getD, h0]⟩
  case round =>
    obtain ⟨k, rfl, hk1, hk, rfl⟩ := hrel
    by_cases hlt : k < p.length
    · have hki : (k : Int) < (p.length : Int) := by omega
      have d0 := HCL.out k hlt
      have HN : Hid (mn p (k + 1) = min (mn p k) (p.getD k 0)) := rfl
      generalize p.getD k 0 = x at *
      generalize mn p k = m at *
      rcases (show m < x ∨ x < m ∨ m = x by omega) with h | h | h
      · have HF : Hid (mn p (k + 1) = m) := by have := HN.out; unfold Hid; omega
        go_wp2_with fail
        go_round
        case rel => exact ⟨k + 1, by go_num, by omega, by omega, by rw [HF.out]⟩
        case measure => simp [intOf]; omega
      · have HF : Hid (mn p (k + 1) = x) := by have := HN.out; unfold Hid; omega
        go_wp2_with fail
        go_round
        case rel => exact ⟨k + 1, by go_num, by omega, by omega, by rw [HF.out]⟩
        case measure => simp [intOf]; omega
      · subst h
        have HF : Hid (mn p (k + 1) = m) := by have := HN.out; unfold Hid; omega
        go_wp2_with fail
        go_round
        case rel => exact ⟨k + 1, by go_num, by omega, by omega, by rw [HF.out]⟩
        case measure => simp [intOf]; omega
    · have hke : k = p.length := by omega
      subst hke
      go_wp2_with fail
      go_ret
      exact ⟨rfl, rfl⟩
set_option maxRecDepth 100000 in
set_option maxHeartbeats 8000000 in
theorem max_any (p : List Int) (v : Value) (w : World) (hv : SlI w v p) (h0 : 0 < p.length) (hl : p.length ≤ 100) :
    Calls Try.prog 27 #[v] w fun e w' => e = .returned (.int .i64 (mx p p.length)) ∧ w' = w := by
  obtain ⟨b, off, cap, rfl, hcl, hcap⟩ := hv.some2 h0
  have HCL : Hid (∀ i, i < p.length → w.cell? ⟨b, off + i, none⟩ = some (.int .i64 (p.getD i 0))) := hcl
  have d0 := hcl 0 h0
  rw [Nat.add_zero] at d0
  have h0i : ¬ (p.length : Int) < 1 := by omega
  have h0j : (0 : Int) < (p.length : Int) := by omega
  have H1 : Hid (mx p 1 = p.getD 0 0) := by unfold Hid mx mx; omega
  clear hv hcl
  go_enter Try.func27, Try.ntmps27
  go_wp2_with fail
  clear d0
  go_loop [4, 3] (fun z m => ∃ k : Nat, z = .int .i64 k ∧ 1 ≤ k ∧ k ≤ p.length ∧ m = .int .i64 (mx p k)) (fun z _ => p.length - (intOf z).toNat)
  case atStart => exact ⟨1, rfl, by omega, by omega, by rw [H1.out]; simp [List.getD_eq_getElem?_getD, h0]⟩
  case round =>
    obtain ⟨k, rfl, hk1, hk, rfl⟩ := hrel
    by_cases hlt : k < p.length
    · have hki : (k : Int) < (p.length : Int) := by omega
      have d0 := HCL.out k hlt
      have HN : Hid (mx p (k + 1) = max (mx p k) (p.getD k 0)) := rfl
      generalize p.getD k 0 = x at *
      generalize mx p k = m at *
      rcases (show m < x ∨ x < m ∨ m = x by omega) with h | h | h
      · have HF : Hid (mx p (k + 1) = x) := by have := HN.out; unfold Hid; omega
        go_wp2_with fail
        go_round
        case rel => exact ⟨k + 1, by go_num, by omega, by omega, by rw [HF.out]⟩
        case measure => simp [intOf]; omega
      · have HF : Hid (mx p (k + 1) = m) := by have := HN.out; unfold Hid; omega
        go_wp2_with fail
        go_round
        case rel => exact ⟨k + 1, by go_num, by omega, by omega, by rw [HF.out]⟩
        case measure => simp [intOf]; omega
      · subst h
        have HF : Hid (mx p (k + 1) = m) := by have := HN.out; unfold Hid; omega
        go_wp2_with fail
        go_round
        case rel => exact ⟨k + 1, by go_num, by omega, by omega, by rw [HF.out]⟩
        case measure => simp [intOf]; omega
    · have hke : k = p.length := by omega
      subst hke
      go_wp2_with fail
      go_ret
      exact ⟨rfl, rfl⟩
end Go.Proofs.Ytidbbkpgmcheiaa
