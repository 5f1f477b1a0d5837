/-
  slices.Equal of numbers that are not the same, or of another length.
-/
import Derived.Test.YtlmichnnpameeaaIE
namespace Go.Proofs.Ytlmichnnpameeaa
open Go.RowKit
open Nm

set_option maxRecDepth 100000 in
set_option maxHeartbeats 4000000 in
theorem iequal_no (v u : Value) (cs ds : List Int) (n : Nat) (w : World) (hv : SlI w v cs) (hu : SlI w u ds) (h1 : cs.length = n) (h2 : ds.length = n) (hl : n ≤ 9223372036854775807) (hne : cs ≠ ds) :
    Calls Try.prog 23 #[v, u] w fun e w' => e = .returned (.bool false) ∧ Below w.heap.size w w' := by
  obtain ⟨a, c, rfl⟩ := hv.val
  obtain ⟨a', c', rfl⟩ := hu.val
  have HV : Hid _ := hv
  have HU : Hid _ := hu
  have H1 : Hid _ := h1
  have H2 : Hid _ := h2
  have HN : Hid _ := hne
  rw [h1, h2]
  clear hv hu h1 h2 hne
  go_enter Try.func23, Try.ntmps23
  go_wp2_with fail
  go_loopw [13] (fun x wr => ∃ k : Nat, x = .int .i64 k ∧ k ≤ n ∧ (∀ i, i < k → cs.getD i 0 = ds.getD i 0) ∧ ∃ q, wr = w.drewN q) (fun x _ => n - (intOf x).toNat)
  case atStart => exact ⟨0, rfl, Nat.zero_le _, fun i hi => absurd hi (by omega), 0, rfl⟩
  case round =>
    obtain ⟨k, rfl, hk, hs, q, rfl⟩ := hrel
    have HS : Hid _ := hs
    clear hs
    by_cases hlt : k < n
    · have hki : (k : Int) < (n : Int) := by omega
      obtain ⟨g, o, cap, hveq, hc⟩ := HV.out.some' (by rw [H1.out]; omega)
      simp only [Value.slice.injEq] at hveq
      obtain ⟨rfl, -, rfl⟩ := hveq
      obtain ⟨h, o', cap', hueq, hd⟩ := HU.out.some' (by rw [H2.out]; omega)
      simp only [Value.slice.injEq] at hueq
      obtain ⟨rfl, -, rfl⟩ := hueq
      have c0 := hc k (by rw [H1.out]; exact hlt)
      have d0 := hd k (by rw [H2.out]; exact hlt)
      clear hc hd
      obtain ⟨p, hp⟩ : ∃ p, cs.getD k 0 = p := ⟨_, rfl⟩
      obtain ⟨r, hr⟩ : ∃ r, ds.getD k 0 = r := ⟨_, rfl⟩
      have HP : Hid _ := hp
      have HR : Hid _ := hr
      rw [hp] at c0
      rw [hr] at d0
      clear hp hr
      by_cases he : p = r
      · subst he
        go_wp2_with fail
        go_quiet (fail)
        go_wp2
        go_roundw
        case rel =>
          refine ⟨k + 1, by go_num, by omega, fun i hi => ?_, q + nq, rfl⟩
          rcases (show i < k ∨ i = k by omega) with h | rfl
          · exact HS.out i h
          · rw [HP.out, HR.out]
        case measure => simp [intOf]; omega
      · have heb : (p != r) = true := by simp [he]
        clear he
        go_wp2_with fail
        go_quiet (fail)
        go_wp2
        go_ret
        exact ⟨rfl, bdrewN (bdrewN (Below.refl _ _) q) nq⟩
    · exfalso
      have hke : k = n := by omega
      subst hke
      apply HN.out
      apply List.ext_getElem
      · rw [H1.out, H2.out]
      · intro i i1 i2
        have := HS.out i (by have := H1.out; omega)
        simpa [List.getD_eq_getElem?_getD, i1, i2] using this
end Go.Proofs.Ytlmichnnpameeaa
