/-
  Contracts: the document's question of a row; IndexFunc and ContainsFunc with it; areRows, isTable, isBelow.
-/
import Derived.Test.YtkbebdanpgaehaaEC
import Derived.Test.YtkbebdanpgaehaaEI
import Derived.Test.YtkbebdanpgaehaaEA
namespace Go.Proofs.Ytkbebdanpgaehaa
open Go.RowKit
open Nm Wm Dm
attribute [local go_sem ↓] Go.wp_at_zero Go.wp_at_succ

set_option maxRecDepth 100000 in
set_option maxHeartbeats 8000000 in
theorem askr_any (V N : Nat) (u : Value) (l : List Int) (w : World) (hc : w.cell? ⟨V, 0, none⟩ = some (.int .i64 N)) (hu : SlI w u l) (h1 : 1 ≤ N) (h64 : N ≤ 64) (_hl : l.length ≤ 9223372036854775807) :
    Calls Try.prog 42 #[u, .pointer (some ⟨V, 0, none⟩)] w fun e w' => e = .returned (.bool (!acs N l)) ∧ Below w.heap.size w w' := by
  obtain ⟨a, c, rfl⟩ := hu.val
  have HU : Hid _ := hu
  clear hu
  by_cases hn : l.length = N
  · have HN : Hid _ := hn
    have h0 : 0 < l.length := by omega
    have hm := mn_mx h0
    have e1 : ((l.length : Int) != (N : Int)) = false := by rw [hn]; simp
    have HQ : Hid (acs N l = l.all isc) := by unfold Hid acs; rw [decide_eq_true (by omega)]; rfl
    have hl100 : l.length ≤ 100 := by omega
    have HMIN : Hid _ := fun (_ : Unit) => min_any l _ w HU.out h0 hl100
    have HMAX : Hid _ := fun (_ : Unit) => max_any l _ w HU.out h0 hl100
    generalize mn l l.length = x at *
    generalize mx l l.length = y at *
    clear hn h0
    by_cases hx : x < 0
    · have HF : Hid (acs N l = false) := by
        rw [HQ.out]; cases e : l.all isc
        · rfl
        · exact absurd hx (hm.1 e).1
      clear hm
      go_enter Try.func42, Try.ntmps42
      go_wp2_with fail
      refine (HMIN.out ()).mono ?_
      rintro e w1 ⟨rfl, rfl⟩
      go_wp2_with fail
      go_ret
      exact ⟨ret_bool (by rw [HF.out]; rfl), Below.refl _ _⟩
    · by_cases hy : 1099511627776 < y
      · have HF : Hid (acs N l = false) := by
          rw [HQ.out]; cases e : l.all isc
          · rfl
          · exact absurd hy (hm.1 e).2
        clear hm
        go_enter Try.func42, Try.ntmps42
        go_wp2_with fail
        refine (HMIN.out ()).mono ?_
        rintro e w1 ⟨rfl, rfl⟩
        go_wp2_with fail
        refine (HMAX.out ()).mono ?_
        rintro e w1 ⟨rfl, rfl⟩
        go_wp2_with fail
        go_ret
        exact ⟨ret_bool (by rw [HF.out]; rfl), Below.refl _ _⟩
      · have HF : Hid (acs N l = true) := by rw [HQ.out]; exact hm.2 ⟨hx, hy⟩
        clear hm
        go_enter Try.func42, Try.ntmps42
        go_wp2_with fail
        refine (HMIN.out ()).mono ?_
        rintro e w1 ⟨rfl, rfl⟩
        go_wp2_with fail
        refine (HMAX.out ()).mono ?_
        rintro e w1 ⟨rfl, rfl⟩
        go_wp2_with fail
        go_ret
        exact ⟨ret_bool (by rw [HF.out]; first | rfl | (rw [decide_eq_false (show ¬ x < 0 by omega), decide_eq_false (show ¬ 1099511627776 < y by omega)]; rfl)), Below.refl _ _⟩
  · have e1 : ((l.length : Int) != (N : Int)) = true := by simp; omega
    have HF : Hid (acs N l = false) := acs_len (by omega)
    clear hn
    go_enter Try.func42, Try.ntmps42
    go_wp2_with fail
    go_ret
    exact ⟨ret_bool (by rw [HF.out]; rfl), Below.refl _ _⟩

/-- What IndexFunc answers: an index, below 0 just if each row is right. -/
structure Ixr (N : Nat) (rows : List (List Int)) (e : Ending) : Prop where
  is : ∃ j : Int, e = .returned (.int .i64 j) ∧ -1 ≤ j ∧ j ≤ 9223372036854775807 ∧ (0 ≤ j ↔ rows.all (acs N) = false)
theorem rows_at {rows : List (List Int)} {p : List Int → Bool} : rows.all p = true ↔ ∀ k, k < rows.length → p (rows.getD k []) = true := by
  rw [List.all_eq_true]
  constructor
  · intro h k hk
    exact h _ (by simp [List.getD_eq_getElem?_getD, hk])
  · intro h x hx
    obtain ⟨k, hk, rfl⟩ := List.mem_iff_getElem.1 hx
    have := h k hk
    simpa [List.getD_eq_getElem?_getD, hk] using this
theorem rows_bad {rows : List (List Int)} {p : List Int → Bool} {k : Nat} (hk : k < rows.length) (h : p (rows.getD k []) = false) : rows.all p = false := by
  cases e : rows.all p
  · rfl
  · have := rows_at.1 e k hk; rw [h] at this; cases this
set_option maxRecDepth 100000 in
set_option maxHeartbeats 8000000 in
theorem idxr_any (V N : Nat) (v : Value) (rows : List (List Int)) (w : World) (hv : SlT w v rows) (hc : w.cell? ⟨V, 0, none⟩ = some (.int .i64 N)) (h1 : 1 ≤ N) (h64 : N ≤ 64) (hlen : rows.length ≤ 9223372036854775807) (hl : ∀ i, i < rows.length → (rows.getD i []).length ≤ 9223372036854775807) :
    Calls Try.prog 60 #[v, .func (.func 42) #[] #[.pointer (some ⟨V, 0, none⟩)]] w fun e w' => Ixr N rows e ∧ Below w.heap.size w w' := by
  obtain ⟨a0, c0, rfl⟩ := hv.val
  have HV : Hid _ := hv
  have HC : Hid _ := hc
  have HL : Hid _ := hl
  clear hv hc hl
  go_enter Try.func60, Try.ntmps60
  go_wp2_with fail
  go_loopw [8] (fun z wr => ∃ k : Nat, z = .int .i64 k ∧ k ≤ rows.length ∧ (∀ i', i' < k → acs N (rows.getD i' []) = true) ∧ Below w.heap.size w wr) (fun z _ => rows.length - (intOf z).toNat)
  case atStart => exact ⟨0, rfl, Nat.zero_le _, fun i hi => absurd hi (by omega), Below.refl _ _⟩
  case round =>
    obtain ⟨k, rfl, hk, he, hb⟩ := hrel
    have HE : Hid _ := he
    have HB : Hid (Below w.heap.size w wr) := hb
    clear he hb
    by_cases hlt : k < rows.length
    · have hki : (k : Int) < (rows.length : Int) := by omega
      obtain ⟨b, off, cap, hveq, hcl⟩ := (HV.out.below HB.out).some' (by omega)
      simp only [Value.slice.injEq] at hveq
      obtain ⟨rfl, -, rfl⟩ := hveq
      obtain ⟨u, d0, su⟩ := hcl k hlt
      obtain ⟨x0, x1, x2, rfl⟩ : ∃ a n c, u = .slice a n c := by obtain ⟨a, c, h⟩ := su.val; exact ⟨_, _, _, h⟩
      have SU : Hid _ := su
      clear hcl su
      go_wp2_with fail
      refine (askr_any V N _ _ wr (kept HB.out HC.out) SU.out h1 h64 (HL.out k hlt)).mono ?_
      rintro e w2 ⟨rfl, b2⟩
      have B2 : Hid (Below w.heap.size w w2) := bthen HB.out b2
      clear b2
      obtain ⟨bq, hbq⟩ : ∃ bq, acs N (rows.getD k []) = bq := ⟨_, rfl⟩
      rw [hbq]
      have HQ : Hid (acs N (rows.getD k []) = bq) := hbq
      clear hbq
      cases bq
      · go_wp2_with fail
        go_ret
        exact ⟨⟨⟨k, rfl, by omega, by omega, fun _ => rows_bad hlt HQ.out, fun _ => by omega⟩⟩, B2.out⟩
      · go_wp2_with fail
        go_roundw
        case rel =>
          refine ⟨k + 1, by go_num, by omega, fun i' hi' => ?_, B2.out⟩
          rcases (show i' < k ∨ i' = k by omega) with h | rfl
          · exact HE.out i' h
          · exact HQ.out
        case measure => simp [intOf]; omega
    · go_wp2_with fail
      go_ret
      refine ⟨⟨⟨-1, rfl, by omega, by omega, fun h => absurd h (by omega), fun h0 => ?_⟩⟩, HB.out⟩
      exfalso
      rw [rows_at.2 (fun i hi => HE.out i (by omega))] at h0
      cases h0
set_option maxRecDepth 100000 in
set_option maxHeartbeats 8000000 in
theorem conr_any (V N : Nat) (v : Value) (rows : List (List Int)) (w : World) (hv : SlT w v rows) (hc : w.cell? ⟨V, 0, none⟩ = some (.int .i64 N)) (h1 : 1 ≤ N) (h64 : N ≤ 64) (hlen : rows.length ≤ 9223372036854775807) (hl : ∀ i, i < rows.length → (rows.getD i []).length ≤ 9223372036854775807) :
    Calls Try.prog 41 #[v, .func (.func 42) #[] #[.pointer (some ⟨V, 0, none⟩)]] w fun e w' => e = .returned (.bool (!rows.all (acs N))) ∧ Below w.heap.size w w' := by
  obtain ⟨a0, c0, rfl⟩ := hv.val
  have HI : Hid _ := fun (_ : Unit) => idxr_any V N (.slice a0 rows.length c0) rows w hv hc h1 h64 hlen hl
  clear hv hc hl
  go_enter Try.func41, Try.ntmps41
  go_wp2_with fail
  refine (HI.out ()).mono ?_
  rintro e w1 ⟨⟨⟨j, rfl, hj1, hj2, hj⟩⟩, b1⟩
  have B1 : Hid _ := b1
  by_cases h0 : 0 ≤ j
  · have HF : Hid _ := hj.1 h0
    clear b1 hj
    go_wp2_with fail
    go_ret
    exact ⟨ret_bool (by rw [HF.out]; rfl), B1.out⟩
  · have HF : Hid (rows.all (acs N) = true) := by
      cases e : rows.all (acs N)
      · exact absurd (hj.2 e) h0
      · rfl
    clear b1 hj
    go_wp2_with fail
    go_ret
    exact ⟨ret_bool (by rw [HF.out]; exact decide_eq_false (by omega)), B1.out⟩
set_option maxRecDepth 100000 in
set_option maxHeartbeats 8000000 in
theorem arerows_any (N : Nat) (v : Value) (rows : List (List Int)) (w : World) (hv : SlT w v rows) (hlen : rows.length ≤ 9223372036854775807) (hl : ∀ i, i < rows.length → (rows.getD i []).length ≤ 9223372036854775807) :
    Calls Try.prog 57 #[v, .int .i64 N] w fun e w' => e = .returned (.bool (rows.all (acs N))) ∧ Below w.heap.size w w' := by
  obtain ⟨a0, c0, rfl⟩ := hv.val
  have HV : Hid _ := hv
  have HL : Hid _ := hl
  clear hv hl
  go_enter Try.func57, Try.ntmps57
  go_wp2_with fail
  go_loopw [9] (fun z wr => ∃ k : Nat, z = .int .i64 k ∧ k ≤ rows.length ∧ (∀ i', i' < k → acs N (rows.getD i' []) = true) ∧ Below w.heap.size w wr) (fun z _ => rows.length - (intOf z).toNat)
  case atStart => exact ⟨0, rfl, Nat.zero_le _, fun i hi => absurd hi (by omega), Below.refl _ _⟩
  case round =>
    obtain ⟨k, rfl, hk, he, hb⟩ := hrel
    have HE : Hid _ := he
    have HB : Hid (Below w.heap.size w wr) := hb
    clear he hb
    by_cases hlt : k < rows.length
    · have hki : (k : Int) < (rows.length : Int) := by omega
      obtain ⟨b, off, cap, hveq, hcl⟩ := (HV.out.below HB.out).some' (by omega)
      simp only [Value.slice.injEq] at hveq
      obtain ⟨rfl, -, rfl⟩ := hveq
      obtain ⟨u, d0, su⟩ := hcl k hlt
      obtain ⟨x0, x1, x2, rfl⟩ : ∃ a n c, u = .slice a n c := by obtain ⟨a, c, h⟩ := su.val; exact ⟨_, _, _, h⟩
      have SU : Hid _ := su
      clear hcl su
      go_wp2_with fail
      refine (arecosts_any N _ _ wr SU.out (HL.out k hlt)).mono ?_
      rintro e w2 ⟨rfl, b2⟩
      have B2 : Hid (Below w.heap.size w w2) := bthen HB.out b2
      clear b2
      obtain ⟨bq, hbq⟩ : ∃ bq, acs N (rows.getD k []) = bq := ⟨_, rfl⟩
      rw [hbq]
      have HQ : Hid (acs N (rows.getD k []) = bq) := hbq
      clear hbq
      cases bq
      · have HF : Hid (rows.all (acs N) = false) := rows_bad hlt HQ.out
        go_wp2_with fail
        go_ret
        exact ⟨ret_bool HF.out.symm, B2.out⟩
      · go_wp2_with fail
        go_roundw
        case rel =>
          refine ⟨k + 1, by go_num, by omega, fun i' hi' => ?_, B2.out⟩
          rcases (show i' < k ∨ i' = k by omega) with h | rfl
          · exact HE.out i' h
          · exact HQ.out
        case measure => simp [intOf]; omega
    · have HF : Hid (rows.all (acs N) = true) := rows_at.2 (fun i hi => HE.out i (by omega))
      go_wp2_with fail
      go_ret
      exact ⟨ret_bool HF.out.symm, HB.out⟩
set_option maxRecDepth 100000 in
theorem isbelow_any (x n : Int) (w : World) : Calls Try.prog 37 #[.int .i64 x, .int .i64 n] w fun e w' => e = .returned (.bool (plc n x)) ∧ w' = w := by
  by_cases h0 : 0 ≤ x
  · by_cases h1 : x < n
    · have HF : Hid (plc n x = true) := plc_yes h0 h1
      go_enter Try.func37, Try.ntmps37
      go_wp2_with fail
      go_ret
      exact ⟨ret_bool HF.out.symm, rfl⟩
    · have HF : Hid (plc n x = false) := plc_no (by omega)
      go_enter Try.func37, Try.ntmps37
      go_wp2_with fail
      go_ret
      exact ⟨ret_bool HF.out.symm, rfl⟩
  · have HF : Hid (plc n x = false) := plc_no (by omega)
    go_enter Try.func37, Try.ntmps37
    go_wp2_with fail
    go_ret
    exact ⟨ret_bool HF.out.symm, rfl⟩
end Go.Proofs.Ytkbebdanpgaehaa
