/-
  Contracts: slices.IndexFunc and ContainsFunc of edges with the question of FloydWidth.
-/
import Derived.Test.YtlmichnnpameeaaFX
namespace Go.Proofs.Ytlmichnnpameeaa
open Go.RowKit
open Nm Wm Dm Bm

set_option maxRecDepth 100000 in
set_option maxHeartbeats 8000000 in
theorem askW_yes (L : Nat) (x y c t : Int) (w : World) (hl : w.cell? ⟨L, 0, none⟩ = some (.int .i64 t)) (h : c = t) : Calls Try.prog 26 #[.agg #[.int .i64 x, .int .i64 y, .int .i64 c], .pointer (some ⟨L, 0, none⟩)] w fun e w' => e = .returned (.bool true) ∧ Below w.heap.size w w' := by
  subst h
  have l0 := kept_alloc (x := .cells #[.int .i64 x, .int .i64 y, .int .i64 c] 50) hl
  have z : (c == c) = true := by simp
  clear hl
  go_enter Try.func26, Try.ntmps26
  go_wp2_with fail
  go_ret
  exact ⟨rfl, balloc (Below.refl _ _) _⟩
set_option maxRecDepth 100000 in
set_option maxHeartbeats 8000000 in
theorem askW_no (L : Nat) (x y c t : Int) (w : World) (hl : w.cell? ⟨L, 0, none⟩ = some (.int .i64 t)) (h : c ≠ t) : Calls Try.prog 26 #[.agg #[.int .i64 x, .int .i64 y, .int .i64 c], .pointer (some ⟨L, 0, none⟩)] w fun e w' => e = .returned (.bool false) ∧ Below w.heap.size w w' := by
  have l0 := kept_alloc (x := .cells #[.int .i64 x, .int .i64 y, .int .i64 c] 50) hl
  have z : (c == t) = false := by simpa using h
  clear hl h
  go_enter Try.func26, Try.ntmps26
  go_wp2_with fail
  go_ret
  exact ⟨rfl, balloc (Below.refl _ _) _⟩
set_option maxRecDepth 100000 in
set_option maxHeartbeats 8000000 in
theorem idxW_any (v : Value) (es : List E) (L : Nat) (t : Int) (w : World) (hv : SlE w v es) (hlen : es.length ≤ 600) (hl : w.cell? ⟨L, 0, none⟩ = some (.int .i64 t)) (hex : ∃ e ∈ es, e.2.2 = t) :
    Calls Try.prog 49 #[v, .func (.func 26) #[] #[.pointer (some ⟨L, 0, none⟩)]] w fun e w' => (∃ j : Nat, e = .returned (.int .i64 j) ∧ j ≤ 600) ∧ Below w.heap.size w w' := by
  obtain ⟨a0, c0, rfl⟩ := hv.val
  have HV : Hid _ := hv
  have HL : Hid _ := hl
  have HEX : Hid _ := hex
  clear hv hl hex
  go_enter Try.func49, Try.ntmps49
  go_wp2_with fail
  go_loopw [8] (fun z wr => ∃ k : Nat, z = .int .i64 k ∧ k ≤ es.length ∧ (∀ i', i' < k → (at3 es i').2.2 ≠ t) ∧ Below w.heap.size w wr) (fun z _ => es.length - (intOf z).toNat)
  case atStart => exact ⟨0, rfl, Nat.zero_le _, fun i hi => absurd hi (by omega), Below.refl _ _⟩
  case round =>
    obtain ⟨k, rfl, hk, he, hb⟩ := hrel
    have HE : Hid _ := he
    have HB : Hid (Below w.heap.size w wr) := hb
    clear he hb
    by_cases hlt : k < es.length
    · have hki : (k : Int) < (es.length : Int) := by omega
      obtain ⟨b, off, cap, hveq, hcl⟩ := (HV.out.below HB.out).some' (by omega)
      simp only [Value.slice.injEq] at hveq
      obtain ⟨rfl, -, rfl⟩ := hveq
      obtain ⟨d0, d1, d2⟩ := hcl k hlt
      clear hcl
      obtain ⟨p, hpe⟩ : ∃ p, at3 es k = p := ⟨_, rfl⟩
      rw [hpe] at d0 d1 d2
      have HPE : Hid _ := hpe
      clear hpe
      obtain ⟨px, py, pz⟩ := p
      simp only at d0 d1 d2
      by_cases hq : pz = t
      · have HQ : Hid _ := hq
        clear hq
        go_wp2_with fail
        refine (askW_yes L px py pz t wr (kept HB.out HL.out) HQ.out).mono ?_
        rintro e w2 ⟨rfl, b2⟩
        have B2 : Hid (Below w.heap.size w w2) := bthen HB.out b2
        clear b2
        go_wp2_with fail
        go_ret
        exact ⟨⟨k, rfl, by omega⟩, B2.out⟩
      · have HQ : Hid _ := hq
        clear hq
        go_wp2_with fail
        refine (askW_no L px py pz t wr (kept HB.out HL.out) HQ.out).mono ?_
        rintro e w2 ⟨rfl, b2⟩
        have B2 : Hid (Below w.heap.size w w2) := bthen HB.out b2
        clear b2
        go_wp2_with fail
        go_roundw
        case rel =>
          refine ⟨k + 1, by go_num, by omega, fun i' hi' => ?_, B2.out⟩
          rcases (show i' < k ∨ i' = k by omega) with h | rfl
          · exact HE.out i' h
          · rw [HPE.out]; exact HQ.out
        case measure => simp [intOf]; omega
    · exfalso
      obtain ⟨e, hem, hq⟩ := HEX.out
      obtain ⟨j, hj, rfl⟩ := List.mem_iff_getElem.1 hem
      have e3 : at3 es j = es[j] := by unfold at3; simp [hj]
      exact HE.out j (by omega) (by rw [e3]; exact hq)
set_option maxRecDepth 100000 in
set_option maxHeartbeats 8000000 in
theorem conW_any (v : Value) (es : List E) (L : Nat) (t : Int) (w : World) (hv : SlE w v es) (hlen : es.length ≤ 600) (hl : w.cell? ⟨L, 0, none⟩ = some (.int .i64 t)) (hex : ∃ e ∈ es, e.2.2 = t) :
    Calls Try.prog 25 #[v, .func (.func 26) #[] #[.pointer (some ⟨L, 0, none⟩)]] w fun e w' => e = .returned (.bool true) ∧ Below w.heap.size w w' := by
  obtain ⟨a0, c0, rfl⟩ := hv.val
  have HI : Hid _ := fun (_ : Unit) => idxW_any (.slice a0 es.length c0) es L t w hv hlen hl hex
  clear hv hl hex
  go_enter Try.func25, Try.ntmps25
  go_wp2_with fail
  refine (HI.out ()).mono ?_
  rintro e w1 ⟨⟨j, rfl, hj⟩, b1⟩
  have B1 : Hid _ := b1
  have hj0 : (0 : Int) ≤ (j : Int) := by omega
  clear b1
  go_wp2_with fail
  go_ret
  exact ⟨rfl, B1.out⟩
end Go.Proofs.Ytlmichnnpameeaa
