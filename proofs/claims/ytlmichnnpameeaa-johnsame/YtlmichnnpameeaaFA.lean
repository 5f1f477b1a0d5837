/-
  Contracts: what ways can be made of: sum, lesser, greater, same, always, both, either.
-/
import Derived.Test.YtlmichnnpameeaaRP
import Derived.Test.YtlmichnnpameeaaFl
namespace Go.Proofs.Ytlmichnnpameeaa
open Go.RowKit
open Nm Wm Dm Bm Fm Fl
attribute [local go_sem ↓] Go.wp_at_zero Go.wp_at_succ

set_option maxRecDepth 100000 in
set_option maxHeartbeats 4000000 in
theorem fsame (a : Int) (w : World) : Calls Try.prog 30 #[.int .i64 a] w fun e w' => e = .returned (.int .i64 a) ∧ w' = w := by
  go_enter Try.func30, Try.ntmps30
  go_wp2_with fail
  go_ret
  exact ⟨rfl, rfl⟩
set_option maxRecDepth 100000 in
set_option maxHeartbeats 4000000 in
theorem flesser (a b : Int) (w : World) : Calls Try.prog 32 #[.int .i64 a, .int .i64 b] w fun e w' => e = .returned (.int .i64 (min a b)) ∧ w' = w := by
  rcases Int.lt_or_le b a with h | h
  · have e : min a b = b := by omega
    rw [e]
    clear e
    go_enter Try.func32, Try.ntmps32
    go_wp2_with fail
    go_ret
    exact ⟨rfl, rfl⟩
  · have e : min a b = a := by omega
    rw [e]
    clear e
    go_enter Try.func32, Try.ntmps32
    go_wp2_with fail
    go_ret
    exact ⟨rfl, rfl⟩
set_option maxRecDepth 100000 in
set_option maxHeartbeats 4000000 in
theorem fgreater (a b : Int) (w : World) : Calls Try.prog 36 #[.int .i64 a, .int .i64 b] w fun e w' => e = .returned (.int .i64 (max a b)) ∧ w' = w := by
  rcases Int.lt_or_le a b with h | h
  · have e : max a b = b := by omega
    rw [e]
    clear e
    go_enter Try.func36, Try.ntmps36
    go_wp2_with fail
    go_ret
    exact ⟨rfl, rfl⟩
  · have e : max a b = a := by omega
    rw [e]
    clear e
    go_enter Try.func36, Try.ntmps36
    go_wp2_with fail
    go_ret
    exact ⟨rfl, rfl⟩
set_option maxRecDepth 100000 in
set_option maxHeartbeats 4000000 in
theorem fsum (a b : Int) (w : World) (ha : Rg a) (hb : Rg b) : Calls Try.prog 31 #[.int .i64 a, .int .i64 b] w fun e w' => e = .returned (.int .i64 (sm a b)) ∧ w' = w := by
  obtain ⟨s, hs⟩ : ∃ s, sm a b = s := ⟨_, rfl⟩
  rw [hs]
  by_cases h1 : a = 1099511627776
  · have e : s = 1099511627776 := by rw [← hs]; exact sm_far (.inl h1)
    subst h1
    subst e
    clear ha hb hs
    go_enter Try.func31, Try.ntmps31
    go_wp2_with fail
    go_ret
    exact ⟨rfl, rfl⟩
  · by_cases h2 : b = 1099511627776
    · have e : s = 1099511627776 := by rw [← hs]; exact sm_far (.inr h2)
      subst h2
      subst e
      clear ha hb hs
      go_enter Try.func31, Try.ntmps31
      go_wp2_with fail
      go_ret
      exact ⟨rfl, rfl⟩
    · have e : s = max (a + b) (-1099511627776) := by rw [← hs]; exact sm_sum (by rintro (h | h); exact h1 h; exact h2 h)
      have hF : far = 1099511627776 := rfl
      have hw : IntKind.i64.wrap (a + b) = a + b := by unfold Rg at ha hb; rw [IntKind.wrap_i64]; omega
      have HE : Hid _ := e
      have z1 : (a == 1099511627776) = false := by simpa using h1
      have z2 : (b == 1099511627776) = false := by simpa using h2
      clear ha hb hs hF e
      rcases Int.lt_or_le (a + b) (-1099511627776) with h | h
      · have e2 : Hid (s = -1099511627776) := by have := HE.out; unfold Hid; omega
        rw [e2.out]
        clear HE e2
        go_enter Try.func31, Try.ntmps31
        go_wp2_with fail
        go_ret
        exact ⟨rfl, rfl⟩
      · have e2 : Hid (s = a + b) := by have := HE.out; unfold Hid; omega
        rw [e2.out]
        clear HE e2
        go_enter Try.func31, Try.ntmps31
        go_wp2_with fail
        go_ret
        exact ⟨rfl, rfl⟩
set_option maxRecDepth 100000 in
set_option maxHeartbeats 4000000 in
theorem falways (a : Int) (w : World) : Calls Try.prog 39 #[.int .i64 a] w fun e w' => e = .returned (.bool true) ∧ w' = w := by
  go_enter Try.func39, Try.ntmps39
  go_wp2_with fail
  go_ret
  exact ⟨rfl, rfl⟩
set_option maxRecDepth 100000 in
set_option maxHeartbeats 4000000 in
theorem fboth (a b : Bool) (w : World) : Calls Try.prog 40 #[.bool a, .bool b] w fun e w' => e = .returned (.bool (and a b)) ∧ w' = w := by
  cases a <;> cases b
  all_goals
    go_enter Try.func40, Try.ntmps40
    go_wp2_with fail
    go_ret
    exact ⟨rfl, rfl⟩
set_option maxRecDepth 100000 in
set_option maxHeartbeats 4000000 in
theorem feither (a b : Bool) (w : World) : Calls Try.prog 41 #[.bool a, .bool b] w fun e w' => e = .returned (.bool (or a b)) ∧ w' = w := by
  cases a <;> cases b
  all_goals
    go_enter Try.func41, Try.ntmps41
    go_wp2_with fail
    go_ret
    exact ⟨rfl, rfl⟩
end Go.Proofs.Ytlmichnnpameeaa
