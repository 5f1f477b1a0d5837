/-
  Contracts: Index, Contains, of a list that holds no such number.
-/
import Derived.Test.YtidbbkpgmcheiaaBA
namespace Go.Proofs.Ytidbbkpgmcheiaa
open Go.RowKit
attribute [local go_sem ↓] Go.wp_at_zero Go.wp_at_succ
set_option maxRecDepth 100000 in
set_option maxHeartbeats 8000000 in
theorem index_no (v : Value) (cs : List Int) (x : Int) (w : World) (hv : SlI w v cs) (hl : cs.length ≤ 9223372036854775807) (hne : ∀ i, i < cs.length → x ≠ cs.getD i 0) :
    Calls Try.prog 55 #[v, .int .i64 x] w fun e w' => e = .returned (.int .i64 (-1)) ∧ w' = w := by
  obtain ⟨a, c, rfl⟩ := hv.val
  have HV : Hid _ := hv
  have HN : Hid _ := hne
  clear hv hne
  go_enter Try.func55, Try.ntmps55
  go_wp2_with fail
  go_loop [8] (fun z => ∃ k : Nat, z = .int .i64 k ∧ k ≤ cs.length) (fun z => cs.length - (intOf z).toNat)
  case atStart => exact ⟨0, rfl, Nat.zero_le _⟩
  case round =>
    obtain ⟨k, rfl, hk⟩ := hrel
    by_cases hlt : k < cs.length
    · have hki : (k : Int) < (cs.length : Int) := by omega
      obtain ⟨g, o, cap, hveq, hc⟩ := HV.out.some' (by omega)
      simp only [Value.slice.injEq] at hveq
      obtain ⟨rfl, -, rfl⟩ := hveq
      have c0 := hc k hlt
      have hn := HN.out k hlt
      clear hc
      generalize cs.getD k 0 = p at *
      have hnb : (x == p) = false := by simp [hn]
      clear hn
      go_wp2_with fail
      go_round
      case rel => exact ⟨k + 1, by go_num, by omega⟩
      case measure => simp [intOf]; omega
    · have hke : k = cs.length := by omega
      subst hke
      go_wp2_with fail
      go_ret
      exact ⟨rfl, rfl⟩
set_option maxRecDepth 100000 in
set_option maxHeartbeats 8000000 in
theorem contains_no (v : Value) (cs : List Int) (x : Int) (w : World) (hv : SlI w v cs) (hl : cs.length ≤ 9223372036854775807) (hne : ∀ i, i < cs.length → x ≠ cs.getD i 0) :
    Calls Try.prog 20 #[v, .int .i64 x] w fun e w' => e = .returned (.bool false) ∧ w' = w := by
  obtain ⟨a, c, rfl⟩ := hv.val
  have HV : Hid _ := hv
  have HN : Hid _ := hne
  clear hv hne
  go_enter Try.func20, Try.ntmps20
  go_wp2_with fail
  refine (index_no _ cs x w HV.out hl HN.out).mono ?_
  rintro e w2 ⟨rfl, rfl⟩
  go_wp2_with fail
  go_ret
  exact ⟨rfl, rfl⟩
end Go.Proofs.Ytidbbkpgmcheiaa
