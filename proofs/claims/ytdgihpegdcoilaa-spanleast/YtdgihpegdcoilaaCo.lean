/-
  Contract: what edges cost together, as the law sums it up.
-/
import Derived.Test.YtdgihpegdcoilaaKJ
namespace Go.Proofs.Ytdgihpegdcoilaa
open Go.RowKit
open Nm Kk
attribute [local go_sem ↓] Go.wp_at_zero Go.wp_at_succ

theorem sm_bound {n : Int} {es : List E} (hg : Gn n es) (l : List Nat) (h : ∀ x, x ∈ l → x < es.length) : -(10000 * (l.length : Int)) ≤ sm es l ∧ sm es l ≤ 10000 * (l.length : Int) := by
  induction l using rev_ind with
  | h0 => simp [sm]
  | h1 l a ih =>
    have h1 := ih (fun x hx => h x (by simp [hx]))
    have h2 := hg.ok _ (mem_at (h a (by simp)))
    rw [sm_snoc]
    unfold cs
    rw [List.length_append]
    simp only [List.length_singleton]
    omega
theorem sm_next (es : List E) {l : List Nat} {k : Nat} (hk : k < l.length) : sm es (l.take (k + 1)) = sm es (l.take k) + cs es (l.getD k 0) := by
  rw [take_getD l k hk, sm_snoc]

set_option maxRecDepth 100000 in
set_option maxHeartbeats 8000000 in
theorem cost_any (n : Int) (GB : Nat) (v ev : Value) (es : List E) (L : List Nat) (w : World) (hb : w.cell? ⟨GB, 1, none⟩ = some v) (hv : SlE w v es) (hg : Gn n es) (hL : SlI w ev (ints L)) (hm : ∀ x, x ∈ L → x < es.length) (hl : L.length ≤ 600) :
    Calls Try.prog 27 #[ev, .pointer (some ⟨GB, 0, none⟩)] w fun e w' => e = .returned (.int .i64 (sm es L)) ∧ Below w.heap.size w w' := by
  obtain ⟨a0, c0, rfl⟩ := hv.val
  obtain ⟨a1, c1, rfl⟩ := hL.val
  rw [ints_length] at hL ⊢
  have HV : Hid _ := hv
  have HL : Hid _ := hL
  have HM : Hid _ := hm
  have HG : Hid _ := hg
  have HB9 : Hid _ := hb
  clear hv hL hm hg hb
  go_enter Try.func27, Try.ntmps27
  go_wp2_with fail
  go_loopw [9, 4] (fun z sv wr => ∃ k : Nat, z = .int .i64 k ∧ k ≤ L.length ∧ sv = .int .i64 (sm es (L.take k)) ∧ Below w.heap.size w wr) (fun z _ _ => L.length - (intOf z).toNat)
  case atStart => exact ⟨0, rfl, Nat.zero_le _, rfl, Below.refl _ _⟩
  case round =>
    obtain ⟨k, rfl, hk, rfl, hb⟩ := hrel
    have HB : Hid (Below w.heap.size w wr) := hb
    clear hb
    by_cases hlt : k < L.length
    · have hki : (k : Int) < (L.length : Int) := by omega
      obtain ⟨b1, off1, cap1, hveq1, hc1⟩ := (HL.out.below HB.out).some' (by rw [ints_length]; omega)
      rw [ints_length] at hveq1 hc1
      simp only [Value.slice.injEq] at hveq1
      obtain ⟨rfl, -, rfl⟩ := hveq1
      have l0 := hc1 k hlt
      rw [ints_at L k hlt] at l0
      have hm := HM.out _ (getD_mem L k hlt)
      have HN : Hid _ := sm_next es hlt
      have hbd := sm_bound HG.out (L.take k) (fun x hx => HM.out x (List.mem_of_mem_take hx))
      rw [List.length_take] at hbd
      clear hc1
      obtain ⟨i, hi⟩ : ∃ i, L.getD k 0 = i := ⟨_, rfl⟩
      rw [hi] at l0 hm HN
      clear hi
      obtain ⟨b, off, cap, hveq, hc⟩ := (HV.out.below HB.out).some' (by omega)
      simp only [Value.slice.injEq] at hveq
      obtain ⟨rfl, -, rfl⟩ := hveq
      obtain ⟨-, -, d2⟩ := hc i hm
      have hce := HG.out.ok _ (mem_at hm)
      have HC9 : Hid ((at3 es i).2.2 = cs es i) := rfl
      rw [HC9.out] at d2 hce
      have hmi : (i : Int) < (es.length : Int) := by omega
      have p1 := kept HB.out HB9.out
      clear hc
      generalize cs es i = c at *
      generalize sm es (L.take k) = q at *
      have hw : IntKind.i64.wrap (q + c) = q + c := by rw [IntKind.wrap_i64]; omega
      clear hce hbd
      go_wp2_with fail
      go_roundw
      case rel => exact ⟨k + 1, by go_num, by omega, by rw [HN.out], HB.out⟩
      case measure => simp [intOf]; omega
    · obtain rfl : k = L.length := by omega
      rw [List.take_length]
      go_wp2_with fail
      go_ret
      exact ⟨rfl, HB.out⟩
end Go.Proofs.Ytdgihpegdcoilaa
