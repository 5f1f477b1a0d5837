/-
  Contract: the document's Edge; whether an edge leads from a place to another.
-/
import Derived.Test.YtkklgnfimkojlaaKF
namespace Go.Proofs.Ytkklgnfimkojlaa
open Go.RowKit
open Nm Wm Dm Bm Fm Km
attribute [local go_sem ↓] Go.wp_at_zero Go.wp_at_succ

set_option maxRecDepth 100000 in
set_option maxHeartbeats 8000000 in
theorem redge (N a b : Nat) (v : Value) (es : List E) (w : World) (hv : SlE w v es) (hb : Rnt N es) :
    Calls Try.prog 46 #[.agg #[.int .i64 N, v], .int .i64 ((a : Nat) : Int), .int .i64 ((b : Nat) : Int)] w fun e w' => (∃ z : Int, e = .returned (.int .i64 z) ∧ decide (z < 1099511627776) = le1 es a b) ∧ Below w.heap.size w w' := by
  obtain ⟨a0, c0, rfl⟩ := hv.val
  have HV : Hid _ := hv
  have HB : Hid _ := hb
  have hn64 := hb.n64
  have hlen := hb.len
  clear hv hb
  go_enter Try.func46, Try.ntmps46
  go_wp2_with fail
  have B0 : Hid (Below w.heap.size w (w.alloc (.cells #[.int .i64 N, .slice a0 es.length c0] 24))) := balloc (Below.refl _ _) _
  generalize w.alloc (.cells #[.int .i64 N, .slice a0 es.length c0] 24) = W0 at *
  go_loopw [13, 7] (fun z o wr => ∃ (k : Nat) (m : Int), z = .int .i64 k ∧ o = .int .i64 m ∧ k ≤ es.length ∧ -10000 ≤ m ∧ m ≤ 1099511627776 ∧ decide (m < 1099511627776) = (es.take k).any (edp (fun x => x) a b) ∧ Below w.heap.size w wr) (fun z _ _ => es.length - (intOf z).toNat)
  case atStart => exact ⟨0, 1099511627776, rfl, rfl, Nat.zero_le _, by omega, by omega, rfl, B0.out⟩
  case round =>
    obtain ⟨k, m, rfl, rfl, hk, hm1, hm2, he, hb'⟩ := hrel
    have HE : Hid _ := he
    have BW : Hid (Below w.heap.size w wr) := hb'
    clear he hb'
    by_cases hlt : k < es.length
    · have hki : (k : Int) < (es.length : Int) := by omega
      obtain ⟨b0, off, cap, hveq, hcl⟩ := (HV.out.below BW.out).some' (by omega)
      simp only [Value.slice.injEq] at hveq
      obtain ⟨rfl, -, rfl⟩ := hveq
      obtain ⟨d0, d1, d2⟩ := hcl k hlt
      clear hcl
      have hok := HB.out.ok _ (mem_at hlt)
      have HN : Hid _ := any_next (p := edp (fun x => x) a b) hlt
      obtain ⟨p, hpe⟩ : ∃ p, at3 es k = p := ⟨_, rfl⟩
      rw [hpe] at d0 d1 d2 hok HN
      clear hpe
      obtain ⟨x, y, c⟩ := p
      simp only at d0 d1 d2 hok
      obtain ⟨ok1, ok2, ok3, ok4, ok5, ok6⟩ := hok
      obtain ⟨x, rfl⟩ := Int.eq_ofNat_of_zero_le ok1
      obtain ⟨y, rfl⟩ := Int.eq_ofNat_of_zero_le ok3
      have B2 : Hid (Below w.heap.size w (wr.alloc (.cells #[.int .i64 x, .int .i64 y, .int .i64 c] 34))) := balloc BW.out _
      by_cases h1 : x = a
      · have t1 : ((x : Int) == (a : Int)) = true := by simp [h1]
        by_cases h2 : y = b
        · have t2 : ((y : Int) == (b : Int)) = true := by simp [h2]
          have HQ : Hid (edp (fun x => x) a b ((x : Int), (y : Int), c) = true) := by unfold Hid edp; simp [h1, h2]
          rw [HQ.out, Bool.or_true] at HN
          have H1 : Hid _ := h1
          have H2 : Hid _ := h2
          clear h1 h2
          by_cases hlt2 : c < m
          · have hle : c ≤ m := by omega
            have hnl : ¬ m < c := by omega
            have hnl2 : ¬ m ≤ c := by omega
            go_wp2_with fail
            go_roundw
            case rel => exact ⟨k + 1, c, by go_num, by first | rfl | go_num, by omega, by omega, by omega, by rw [HN.out]; exact decide_eq_true (by omega), B2.out⟩
            case measure => simp [intOf]; omega
          · have hle : m ≤ c := by omega
            have hnl : ¬ c < m := hlt2
            go_wp2_with fail
            go_roundw
            case rel => exact ⟨k + 1, m, by go_num, by first | rfl | go_num, by omega, by omega, by omega, by rw [HN.out]; exact decide_eq_true (by omega), B2.out⟩
            case measure => simp [intOf]; omega
        · have t2 : ((y : Int) == (b : Int)) = false := by simp; omega
          have HQ : Hid (edp (fun x => x) a b ((x : Int), (y : Int), c) = false) := by unfold Hid edp; simp [h2]
          rw [HQ.out, Bool.or_false, ← HE.out] at HN
          have H1 : Hid _ := h1
          have H2 : Hid _ := h2
          clear h1 h2
          go_wp2_with fail
          go_roundw
          case rel => exact ⟨k + 1, m, by go_num, by first | rfl | go_num, by omega, by omega, by omega, HN.out.symm, B2.out⟩
          case measure => simp [intOf]; omega
      · have t1 : ((x : Int) == (a : Int)) = false := by simp; omega
        have HQ : Hid (edp (fun x => x) a b ((x : Int), (y : Int), c) = false) := by unfold Hid edp; simp [h1]
        rw [HQ.out, Bool.or_false, ← HE.out] at HN
        have H1 : Hid _ := h1
        clear h1
        go_wp2_with fail
        go_roundw
        case rel => exact ⟨k + 1, m, by go_num, by first | rfl | go_num, by omega, by omega, by omega, HN.out.symm, B2.out⟩
        case measure => simp [intOf]; omega
    · obtain rfl : k = es.length := by omega
      rw [List.take_length] at HE
      go_wp2_with fail
      go_ret
      exact ⟨⟨m, rfl, HE.out⟩, BW.out⟩
set_option maxRecDepth 100000 in
set_option maxHeartbeats 8000000 in
theorem ask45 (B N a b : Nat) (v : Value) (es : List E) (w : World) (h0 : w.cell? ⟨B, 0, none⟩ = some (.int .i64 (N : Int))) (h1 : w.cell? ⟨B, 1, none⟩ = some v) (hv : SlE w v es) (hb : Rnt N es) :
    Calls Try.prog 45 #[.int .i64 ((a : Nat) : Int), .int .i64 ((b : Nat) : Int), .pointer (some ⟨B, 0, none⟩)] w fun e w' => e = .returned (.bool (le1 es a b)) ∧ Below w.heap.size w w' := by
  have HC : Hid _ := fun (_ : Unit) => redge N a b v es w hv hb
  clear hv hb
  go_enter Try.func45, Try.ntmps45
  go_wp2_with fail
  refine (HC.out ()).mono ?_
  rintro e w1 ⟨⟨z, rfl, hz⟩, b1⟩
  have B1 : Hid _ := b1
  have HZ : Hid _ := hz
  clear b1 hz
  go_wp2_with fail
  go_ret
  exact ⟨ret_bool HZ.out, B1.out⟩
end Go.Proofs.Ytkklgnfimkojlaa
