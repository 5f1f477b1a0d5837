/-
  Contracts: Join; the document's cut.
-/
import Derived.Test.YtfgdcglgloahfacCA
import Derived.Deep.DeepAppendRoom
namespace Go.Proofs.Ytfgdcglgloahfac
open Go.RowKit
open Nm Wm Cm
attribute [local go_sem ↓] Go.wp_at_zero Go.wp_at_succ

set_option maxRecDepth 100000 in
set_option maxHeartbeats 4000000 in
theorem join_no0 (va vb : Value) (a b : List Int) (w : World) (ha : SlI w va a) (hb : SlI w vb b) (hla : a.length ≤ 17592186043904) (hlb : b.length ≤ 17592186043904) (h : a.length = 0 ∨ b.length = 0) :
    Calls Try.prog 8 #[va, vb] w fun e w' => e = .returned (.tuple #[.slice none 0 0, .int .i64 1]) ∧ Below w.heap.size w w' := by
  obtain ⟨a0, c0, rfl⟩ := ha.val
  obtain ⟨a1, c1, rfl⟩ := hb.val
  by_cases h0 : a.length = 0
  · have h0i : ((a.length : Int) == 0) = true := by simp [h0]
    clear h0 h ha hb
    go_enter Try.func8, Try.ntmps8
    go_wp2_with fail
    go_quiet (fail)
    go_wp2_with fail
    go_ret2
    exact ⟨rfl, bdrewN (Below.refl _ _) _⟩
  · have h0i : ((a.length : Int) == 0) = false := by simp; exact fun e => h0 (by simp [e])
    have h1 : b.length = 0 := by omega
    have h1i : ((b.length : Int) == 0) = true := by simp [h1]
    clear h0 h h1 ha hb
    go_enter Try.func8, Try.ntmps8
    go_wp2_with fail
    go_quiet (fail)
    go_wp2_with fail
    go_ret2
    exact ⟨rfl, bdrewN (Below.refl _ _) _⟩

set_option maxRecDepth 100000 in
set_option maxHeartbeats 4000000 in
theorem join_no1 (va vb : Value) (a b : List Int) (w : World) (ha : SlI w va a) (hb : SlI w vb b) (hla : a.length ≤ 17592186043904) (hlb : b.length ≤ 17592186043904) (h0 : a.length ≠ 0) (h1 : b.length ≠ 0) (hne : a.getD (a.length - 1) 0 ≠ b.getD 0 0) :
    Calls Try.prog 8 #[va, vb] w fun e w' => e = .returned (.tuple #[.slice none 0 0, .int .i64 1]) ∧ Below w.heap.size w w' := by
  obtain ⟨ga, oa, ca, rfl, hca⟩ := ha.some' (by omega)
  obtain ⟨gb, ob, cb, rfl, hcb⟩ := hb.some' (by omega)
  obtain ⟨m, hm⟩ : ∃ m, a.length = m + 1 := ⟨a.length - 1, by omega⟩
  have d0 := hca m (by omega)
  have d1 := hcb 0 (by omega)
  rw [Nat.add_zero] at d1
  rw [hm, Nat.add_sub_cancel] at hne
  rw [hm] at hla ⊢
  obtain ⟨x, hx⟩ : ∃ x, a.getD m 0 = x := ⟨_, rfl⟩
  obtain ⟨y, hy⟩ : ∃ y, b.getD 0 0 = y := ⟨_, rfl⟩
  rw [hx] at d0 hne
  rw [hy] at d1 hne
  have hne' : (y != x) = true := by simp; exact fun e => hne e.symm
  have h1i : ((b.length : Int) == 0) = false := by simp; exact fun e => h1 (by simp [e])
  have h1p : (0 : Int) < (b.length : Int) := by omega
  have h0i : ((m : Int) + 1 == 0) = false := beq_eq_false_iff_ne.2 (by omega)
  have hmi : (m : Int) < (m : Int) + 1 := by omega
  clear hx hy hne hca hcb ha hb hm h0 h1
  go_enter Try.func8, Try.ntmps8
  go_wp2_with fail
  go_quiet (fail)
  go_wp2_with fail
  go_ret2
  exact ⟨rfl, bdrewN (Below.refl _ _) _⟩

theorem nums_news {w : World} {b off : Nat} {ls : List Int} (h : ∀ i, i < ls.length → w.cell? ⟨b, off + i, none⟩ = some (.int .i64 (ls.getD i 0))) :
    ∀ (j : Nat) (u : Value), (ls.map (fun z => Value.int .i64 z))[j]? = some u → w.cell? ((⟨b, off, none⟩ : Addr).add j) = some u := by
  intro j u hu
  have hadd : (⟨b, off, none⟩ : Addr).add j = ⟨b, off + j, none⟩ := by unfold Addr.add; split <;> simp_all
  have hj : j < ls.length := by
    rcases Nat.lt_or_ge j ls.length with h | h
    · exact h
    · rw [List.getElem?_eq_none (by simpa using h)] at hu; cases hu
  rw [hadd, h j hj]
  simp [hj] at hu
  rw [← hu]; simp [List.getD_eq_getElem?_getD, hj]
theorem nums_one (l : List Int) : ∀ u ∈ l.map (fun z => Value.int .i64 z), u.oneCell' = true := by
  intro u hu
  obtain ⟨z, _, rfl⟩ := List.mem_map.1 hu
  rfl
theorem tail_cells {w : World} {g off : Nat} {b : List Int} (h : ∀ i, i < b.length → w.cell? ⟨g, off + i, none⟩ = some (.int .i64 (b.getD i 0))) : ∀ i, i < b.tail.length → w.cell? ⟨g, off + 1 + i, none⟩ = some (.int .i64 (b.tail.getD i 0)) := by
  intro i hi
  simp at hi
  have := h (i + 1) (by omega)
  rw [show off + 1 + i = off + (i + 1) by omega, this]
  cases b with
  | nil => simp at hi
  | cons x r => rfl

set_option maxRecDepth 100000 in
set_option maxHeartbeats 8000000 in
theorem join_yes (va vb : Value) (a b : List Int) (w : World) (ha : SlI w va a) (hb : SlI w vb b) (hla : a.length ≤ 17592186043904) (hlb : b.length ≤ 17592186043904) (h0 : a.length ≠ 0) (h1 : b.length ≠ 0) (heq : a.getD (a.length - 1) 0 = b.getD 0 0) :
    Calls Try.prog 8 #[va, vb] w fun e w' => ∃ u, e = .returned (.tuple #[u, .int .i64 0]) ∧ Is w' w.heap.size u (a ++ b.tail) ∧ Below w.heap.size w w' := by
  obtain ⟨ga, oa, ca, rfl, hca⟩ := ha.some' (by omega)
  obtain ⟨gb, ob, cb, rfl, hcb, hcap⟩ := hb.some2 (by omega)
  obtain ⟨m, hm⟩ : ∃ m, a.length = m + 1 := ⟨a.length - 1, by omega⟩
  have d0 := hca m (by omega)
  have d1 := hcb 0 (by omega)
  rw [Nat.add_zero] at d1
  rw [hm, Nat.add_sub_cancel] at heq
  have HCA : Hid (∀ i, i < a.length → w.cell? ⟨ga, oa + i, none⟩ = some (.int .i64 (a.getD i 0))) := hca
  have HCB : Hid (∀ i, i < b.length → w.cell? ⟨gb, ob + i, none⟩ = some (.int .i64 (b.getD i 0))) := hcb
  have HM : Hid _ := hm
  rw [hm] at hla ⊢
  rw [heq] at d0
  obtain ⟨x, hx⟩ : ∃ x, b.getD 0 0 = x := ⟨_, rfl⟩
  rw [hx] at d0 d1
  have h1i : ((b.length : Int) == 0) = false := by simp; exact fun e => h1 (by simp [e])
  have h1p : (0 : Int) < (b.length : Int) := by omega
  have h1q : (1 : Int) ≤ (b.length : Int) := by omega
  have h0i : ((m : Int) + 1 == 0) = false := beq_eq_false_iff_ne.2 (by omega)
  have hmi : (m : Int) < (m : Int) + 1 := by omega
  have hcapi : (b.length : Int) ≤ (cb : Int) := by omega
  clear hx heq hca hcb ha hb hm h0
  obtain ⟨c, hc⟩ : ∃ c : Nat, c = m + b.length := ⟨_, rfl⟩
  have hci : (m : Int) + 1 + (b.length : Int) - 1 = (c : Int) := by omega
  obtain ⟨i0, hi0, hz0, hz1, hz2⟩ := info3_parts
  have HC : Hid _ := hc
  have hcle : c ≤ 35184372087808 := by omega
  clear hc
  have HNA : Hid (∀ w', Below w.heap.size w w' → ∀ (j : Nat) (u : Value), (a.map (fun z => Value.int .i64 z))[j]? = some u → w'.cell? ((⟨ga, oa, none⟩ : Addr).add j) = some u) := fun w' hb => nums_news (fun i hi => kept hb (HCA.out i hi))
  have hmk := fun (wr : World) => run_make_own (P := Try.prog) wr wr.heap.size 22 3 i0 _ 1 Try.underlying22 hi0 hz0 hz1 .i64 .i64 c (by rw [hz2]; omega) (by unfold maxLen; omega) (Nat.le_refl _)
  by_cases hc1 : cb = 1
  · subst hc1
    have hbl : b.length = 1 := by omega
    have HT : Hid (a ++ b.tail = a) := by
      cases b with
      | nil => simp at hbl
      | cons y r => simp at hbl; unfold Hid; simp [hbl]
    have HBL : Hid _ := hbl
    clear hbl
    go_enter Try.func8, Try.ntmps8
    go_wp2_with fail
    go_quiet (fail)
    obtain ⟨w2, hrun, hown2, hgr2⟩ := hmk (w.drewN nq)
    have B2 : Hid (Below w.heap.size w w2) := (bdrewN (Below.refl _ _) nq).grown hgr2 (Nat.le_refl _) (fun k hk => by cases hk)
    have hnw : (w.drewN nq).heap.size = w.heap.size := rfl
    rw [hnw] at hrun hown2
    clear hmk hnw hgr2
    go_wp2_with (first
      | (at_builtin; refine wpList_append_own_spare _ rfl _ _ _ rfl w.heap.size 3 i0 1 Try.underlying22 hi0 hz1 w.heap.size 0 c [] rfl hown2 ⟨ga, oa, none⟩ (m + 1) ca (a.map (fun z => .int .i64 z)) rfl (by have := HM.out; simp; omega) (HNA.out w2 B2.out) (nums_one a) (by have := HC.out; omega) ?_; intro w3 hown3 hgr3; rw [Nat.zero_add, List.nil_append] at hown3; have B3 : Hid (Below w.heap.size w w3) := (by exact B2.out.grown hgr3 B2.out.size (fun k hk => by cases hk; exact Nat.le_refl _)))
      | (at_builtin; refine wpList_append_own_spare _ rfl _ _ _ rfl w.heap.size 3 i0 1 Try.underlying22 hi0 hz1 w.heap.size (m + 1) c (a.map (fun z => .int .i64 z)) rfl hown3 ⟨gb, ob, none⟩ 0 0 [] rfl (by simp) (by simp) (by simp) (by have := HC.out; omega) ?_; intro w4 hown4 hgr4; have B4 : Hid (Below w.heap.size w w4) := (by exact B3.out.grown hgr4 B3.out.size (fun k hk => by cases hk; exact Nat.le_refl _)))
      | go_in)
    go_ret2
    refine ⟨_, rfl, ⟨?_⟩, B4.out⟩
    rw [HT.out]
    have e1 : a.length = (m + 1) + 0 := by have := HM.out; omega
    rw [e1]
    simpa using hown4
  · have hcn : ¬ cb = 1 := hc1
    go_enter Try.func8, Try.ntmps8
    go_wp2_with fail
    go_quiet (fail)
    obtain ⟨w2, hrun, hown2, hgr2⟩ := hmk (w.drewN nq)
    have B2 : Hid (Below w.heap.size w w2) := (bdrewN (Below.refl _ _) nq).grown hgr2 (Nat.le_refl _) (fun k hk => by cases hk)
    have hnw : (w.drewN nq).heap.size = w.heap.size := rfl
    rw [hnw] at hrun hown2
    clear hmk hnw hgr2
    go_wp2_with (first
      | (at_builtin; refine wpList_append_own_spare _ rfl _ _ _ rfl w.heap.size 3 i0 1 Try.underlying22 hi0 hz1 w.heap.size 0 c [] rfl hown2 ⟨ga, oa, none⟩ (m + 1) ca (a.map (fun z => .int .i64 z)) rfl (by have := HM.out; simp; omega) (HNA.out w2 B2.out) (nums_one a) (by have := HC.out; omega) ?_; intro w3 hown3 hgr3; rw [Nat.zero_add, List.nil_append] at hown3; have B3 : Hid (Below w.heap.size w w3) := (by exact B2.out.grown hgr3 B2.out.size (fun k hk => by cases hk; exact Nat.le_refl _)))
      | (at_builtin; refine wpList_append_own_spare _ rfl _ _ _ rfl w.heap.size 3 i0 1 Try.underlying22 hi0 hz1 w.heap.size (m + 1) c (a.map (fun z => .int .i64 z)) rfl hown3 ⟨gb, ob + 1, none⟩ (b.length - 1) (cb - 1) (b.tail.map (fun z => .int .i64 z)) rfl (by simp) (nums_news (tail_cells (fun i hi => kept B3.out (HCB.out i hi)))) (nums_one _) (by have := HC.out; omega) ?_; intro w4 hown4 hgr4; have B4 : Hid (Below w.heap.size w w4) := (by exact B3.out.grown hgr4 B3.out.size (fun k hk => by cases hk; exact Nat.le_refl _)))
      | go_in)
    go_ret2
    refine ⟨_, rfl, ⟨?_⟩, B4.out⟩
    have e1 : (a ++ b.tail).length = (m + 1) + (b.length - 1) := by have := HM.out; simp; omega
    rw [e1, List.map_append]
    simpa using hown4
end Go.Proofs.Ytfgdcglgloahfac
