/-
  Contract: floyd's All.
-/
import Derived.Test.YtlmichnnpameeaaFD
namespace Go.Proofs.Ytlmichnnpameeaa
open Go.RowKit
open Nm Wm Dm Bm Fm Fl
attribute [local go_sem ↓] Go.wp_at_zero Go.wp_at_succ

set_option maxRecDepth 100000 in
set_option maxHeartbeats 8000000 in
theorem fall_net (n : Int) (v : Value) (es : List E) (w : World) (hv : SlE w v es) (hlen : es.length ≤ 9223372036854775807) (hc : nck n es ≠ 0) :
    Calls Try.prog 10 #[.agg #[.int .i64 n, v]] w fun e w' => e = .returned (.tuple #[.slice none 0 0, .int .i64 (nck n es)]) ∧ Below w.heap.size w w' := by
  obtain ⟨a0, c0, rfl⟩ := hv.val
  have HV : Hid _ := hv
  have HC : Hid _ := hc
  have hz : (nck n es != 0) = true := by simp [hc]
  clear hv hc
  go_enter Try.func10, Try.ntmps10
  go_wp2_with fail
  have B0 : Hid (Below w.heap.size w (w.alloc (.cells #[.int .i64 n, .slice a0 es.length c0] 24))) := balloc (Below.refl _ _) _
  generalize w.alloc (.cells #[.int .i64 n, .slice a0 es.length c0] 24) = W0 at *
  refine (between_net_min n _ es W0 (HV.out.below B0.out) hlen HC.out).mono ?_
  rintro e w1 ⟨rfl, b1⟩
  have B1 : Hid (Below w.heap.size w w1) := bthen B0.out b1
  clear b1 B0
  go_wp2_with fail
  go_ret2
  exact ⟨rfl, B1.out⟩
set_option maxRecDepth 100000 in
set_option maxHeartbeats 8000000 in
theorem fall_no (N : Nat) (v : Value) (es : List E) (w : World) (hv : SlE w v es) (hb : Rnt N es) (hs : (rns es (fun _ => 0) N).s ≠ -1) :
    Calls Try.prog 10 #[.agg #[.int .i64 N, v]] w fun e w' => e = .returned (.tuple #[.slice none 0 0, .int .i64 6]) ∧ Below w.heap.size w w' := by
  obtain ⟨a0, c0, rfl⟩ := hv.val
  have HV : Hid _ := hv
  have HB : Hid _ := hb
  have HX : Hid _ := fin_bad hb hs
  have hn64 := hb.n64
  clear hv hb hs
  go_enter Try.func10, Try.ntmps10
  go_wp2_with fail
  have B0 : Hid (Below w.heap.size w (w.alloc (.cells #[.int .i64 N, .slice a0 es.length c0] 24))) := balloc (Below.refl _ _) _
  generalize w.alloc (.cells #[.int .i64 N, .slice a0 es.length c0] 24) = W0 at *
  refine (between_min N _ es W0 (HV.out.below B0.out) HB.out).mono ?_
  rintro e w1 ⟨R, Gs, rfl, t1, b1⟩
  have T1 : Hid _ := t1
  have B1 : Hid (Below w.heap.size w w1) := bthen B0.out b1
  clear b1 B0 t1
  obtain ⟨T, hT⟩ : ∃ T, fin N es = T := ⟨_, rfl⟩
  rw [hT] at T1 HX
  clear hT
  go_wp2_with fail
  go_loopw [18] (fun z wr => ∃ k : Nat, z = .int .i64 k ∧ k ≤ N ∧ (∀ i, i < k → 0 ≤ T i i) ∧ Below w1.heap.size w1 wr) (fun z _ => N - (intOf z).toNat)
  case atStart => exact ⟨0, rfl, Nat.zero_le _, fun i hi => absurd hi (by omega), Below.refl _ _⟩
  case round =>
    obtain ⟨k, rfl, hk, hall, hbr⟩ := hrel
    have HA : Hid _ := hall
    have BR : Hid (Below w1.heap.size w1 wr) := hbr
    clear hall hbr
    by_cases hlt : k < N
    · have hki : (k : Int) < (N : Int) := by omega
      have TR : Hid _ := T1.out.below BR.out
      have h1 := TR.out.head k hlt
      obtain ⟨c1, -⟩ := (TR.out.row k hlt).cell k hlt
      obtain ⟨z, hz⟩ : ∃ z, T k k = z := ⟨_, rfl⟩
      have HZ : Hid _ := hz
      rw [hz] at c1
      clear hz
      by_cases hneg : z < 0
      · go_wp2_with fail
        go_ret2
        exact ⟨rfl, bthen B1.out BR.out⟩
      · go_wp2_with fail
        go_roundw
        case rel =>
          refine ⟨k + 1, by go_num, by omega, fun i hi => ?_, BR.out⟩
          by_cases e : i = k
          · subst e; rw [HZ.out]; omega
          · exact HA.out i (by omega)
        case measure => simp [intOf]; omega
    · exfalso
      obtain ⟨x, hx, hneg⟩ := HX.out
      have := HA.out x (by omega)
      omega
set_option maxRecDepth 100000 in
set_option maxHeartbeats 8000000 in
theorem fall_yes (N : Nat) (v : Value) (es : List E) (w : World) (hv : SlE w v es) (hb : Rnt N es) (hs : (rns es (fun _ => 0) N).s = -1) :
    Calls Try.prog 10 #[.agg #[.int .i64 N, v]] w fun e w' => ∃ R, e = .returned (.tuple #[.slice (some ⟨R, 0, none⟩) N N, .int .i64 0]) ∧ SlT w' (.slice (some ⟨R, 0, none⟩) N N) (tbl N (fun s => spr es (Dm.start s) (N - 1))) ∧ Below w.heap.size w w' := by
  obtain ⟨a0, c0, rfl⟩ := hv.val
  have HV : Hid _ := hv
  have HB : Hid _ := hb
  have HX : Hid _ := (fin_good hb hs).2
  have HY : Hid _ := (fin_good hb hs).1
  have hn64 := hb.n64
  clear hv hb hs
  go_enter Try.func10, Try.ntmps10
  go_wp2_with fail
  have B0 : Hid (Below w.heap.size w (w.alloc (.cells #[.int .i64 N, .slice a0 es.length c0] 24))) := balloc (Below.refl _ _) _
  generalize w.alloc (.cells #[.int .i64 N, .slice a0 es.length c0] 24) = W0 at *
  refine (between_min N _ es W0 (HV.out.below B0.out) HB.out).mono ?_
  rintro e w1 ⟨R, Gs, rfl, t1, b1⟩
  have T1 : Hid _ := t1
  have B1 : Hid (Below w.heap.size w w1) := bthen B0.out b1
  clear b1 B0 t1
  obtain ⟨T, hT⟩ : ∃ T, fin N es = T := ⟨_, rfl⟩
  rw [hT] at T1 HX HY
  clear hT
  go_wp2_with fail
  go_loopw [18] (fun z wr => ∃ k : Nat, z = .int .i64 k ∧ k ≤ N ∧ Below w1.heap.size w1 wr) (fun z _ => N - (intOf z).toNat)
  case atStart => exact ⟨0, rfl, Nat.zero_le _, Below.refl _ _⟩
  case round =>
    obtain ⟨k, rfl, hk, hbr⟩ := hrel
    have BR : Hid (Below w1.heap.size w1 wr) := hbr
    clear hbr
    have TR : Hid _ := T1.out.below BR.out
    by_cases hlt : k < N
    · have hki : (k : Int) < (N : Int) := by omega
      have h1 := TR.out.head k hlt
      obtain ⟨c1, -⟩ := (TR.out.row k hlt).cell k hlt
      have hneg : ¬ T k k < 0 := Int.not_lt.2 (HX.out k hlt)
      generalize T k k = z at *
      go_wp2_with fail
      go_roundw
      case rel => exact ⟨k + 1, by go_num, by omega, BR.out⟩
      case measure => simp [intOf]; omega
    · go_wp2_with fail
      go_ret2
      exact ⟨_, rfl, (TR.out.congr HY.out).slt, bthen B1.out BR.out⟩
end Go.Proofs.Ytlmichnnpameeaa
