/-
  Contracts: slices.Index and slices.Contains of a number that is not there.
-/
import Derived.Test.YtfgdcglgloahfabCA
import Derived.Test.YtfgdcglgloahfabRV
import Derived.Test.YtfgdcglgloahfabIE
namespace Go.Proofs.Ytfgdcglgloahfab
open Go.RowKit
open Nm Wm Cm

theorem SlI.take {w : World} {b off cap k : Nat} {p : List Int} (h : ∀ i, i < p.length → w.cell? ⟨b, off + i, none⟩ = some (.int .i64 (p.getD i 0))) (hk : k ≤ p.length) (hc : p.length ≤ cap) : SlI w (.slice (some ⟨b, off, none⟩) k cap) (p.take k) := by
  refine .row b off cap (by simp; omega) (fun i hi => ?_) (by simp; omega)
  simp at hi
  rw [h i (by omega)]
  simp [List.getD_eq_getElem?_getD, hi, show i < p.length by omega]
set_option maxRecDepth 100000 in
set_option maxHeartbeats 4000000 in
theorem index_no (l : List Int) (x : Int) (v : Value) (w : World) (hv : SlI w v l) (hl : l.length ≤ 100) (hne : ∀ i, i < l.length → l.getD i 0 ≠ x) :
    Calls Try.prog 25 #[v, .int .i64 x] w fun e w' => e = .returned (.int .i64 (-1)) ∧ w' = w := by
  obtain ⟨a0, c0, rfl⟩ := hv.val
  have HV : Hid _ := hv
  have HN : Hid _ := hne
  clear hv hne
  go_enter Try.func25, Try.ntmps25
  go_wp2_with fail
  go_loop [8] (fun z => ∃ k : Nat, z = .int .i64 k ∧ k ≤ l.length) (fun z => l.length - (intOf z).toNat)
  case atStart => exact ⟨0, rfl, Nat.zero_le _⟩
  case round =>
    obtain ⟨k, rfl, hk⟩ := hrel
    by_cases hlt : k < l.length
    · have hki : (k : Int) < (l.length : Int) := by omega
      obtain ⟨b, off, cap, hveq, hc⟩ := HV.out.some' (by omega)
      simp only [Value.slice.injEq] at hveq
      obtain ⟨rfl, -, rfl⟩ := hveq
      have d0 := hc k hlt
      have hn := HN.out k hlt
      clear hc
      generalize l.getD k 0 = y at *
      have hb : (x == y) = false := by simp; exact fun e => hn e.symm
      clear hn
      go_wp2_with fail
      go_round
      case rel => exact ⟨k + 1, by go_num, by omega⟩
      case measure => simp [intOf]; omega
    · have hke : k = l.length := by omega
      subst hke
      go_wp2_with fail
      go_ret
      exact ⟨rfl, rfl⟩
theorem contains_no (l : List Int) (x : Int) (v : Value) (w : World) (hv : SlI w v l) (hl : l.length ≤ 100) (hne : ∀ i, i < l.length → l.getD i 0 ≠ x) :
    Calls Try.prog 11 #[v, .int .i64 x] w fun e w' => e = .returned (.bool false) ∧ w' = w := by
  obtain ⟨a0, c0, rfl⟩ := hv.val
  have HV : Hid _ := hv
  have HN : Hid _ := hne
  clear hv hne
  go_enter Try.func11, Try.ntmps11
  go_wp2_with fail
  refine (index_no l x _ w HV.out hl HN.out).mono ?_
  rintro e w' ⟨rfl, rfl⟩
  go_wp2_with fail
  go_ret
  exact ⟨rfl, rfl⟩
end Go.Proofs.Ytfgdcglgloahfab
