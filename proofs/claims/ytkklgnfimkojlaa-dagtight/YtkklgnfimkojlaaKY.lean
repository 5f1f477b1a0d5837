/-
  Contracts: slices.ContainsFunc of edges, with the three questions of the laws on nets without cycles.
-/
import Derived.Test.YtkklgnfimkojlaaRP
import Derived.Test.YtkklgnfimkojlaaNA
import Derived.Test.YtkklgnfimkojlaaKr
import Derived.Deep.Cut
namespace Go.Proofs.Ytkklgnfimkojlaa
open Go.RowKit
open Nm Wm Dm Bm Fm Km
attribute [local go_sem ↓] Go.wp_at_zero Go.wp_at_succ

theorem eany_next {p : E → Bool} {es : List E} {k : Nat} (h : k < es.length) : (es.take (k + 1)).any p = ((es.take k).any p || p (at3 es k)) := by
  rw [take_next h, List.any_append]; simp
namespace Q28
structure Asks (w : World) (L N : Nat) (p : E → Bool) : Prop where
  ask : ∀ w', Below w.heap.size w w' → ∀ (x y : Nat) (c : Int), x < N → y < N → Calls Try.prog 28 #[.agg #[.int .i64 ((x : Nat) : Int), .int .i64 ((y : Nat) : Int), .int .i64 c], .pointer (some ⟨L, 0, none⟩)] w' fun e w2 => e = .returned (.bool (p ((x : Int), (y : Int), c))) ∧ Below w'.heap.size w' w2
set_option maxRecDepth 100000 in
set_option maxHeartbeats 8000000 in
theorem idx (L N : Nat) (v : Value) (es : List E) (p : E → Bool) (w : World) (hv : SlE w v es) (hb : Rnt N es) (ha : Asks w L N p) :
    Calls Try.prog 54 #[v, .func (.func 28) #[] #[.pointer (some ⟨L, 0, none⟩)]] w fun e w' => (∃ z : Int, e = .returned (.int .i64 z) ∧ -1 ≤ z ∧ z ≤ 600 ∧ decide (0 ≤ z) = es.any p) ∧ Below w.heap.size w w' := by
  obtain ⟨a0, c0, rfl⟩ := hv.val
  have HV : Hid _ := hv
  have HB : Hid _ := hb
  have HA : Hid _ := ha
  have hlen := hb.len
  clear hv hb ha
  go_enter Try.func54, Try.ntmps54
  go_wp2_with fail
  go_loopw [8] (fun z wr => ∃ k : Nat, z = .int .i64 k ∧ k ≤ es.length ∧ Hid ((es.take k).any p = false) ∧ Below w.heap.size w wr) (fun z _ => es.length - (intOf z).toNat)
  case atStart => exact ⟨0, rfl, Nat.zero_le _, rfl, Below.refl _ _⟩
  case round =>
    obtain ⟨k, rfl, hk, HE, hbw⟩ := hrel
    have BW : Hid (Below w.heap.size w wr) := hbw
    clear hbw
    by_cases hlt : k < es.length
    · have hki : (k : Int) < (es.length : Int) := by omega
      have HN : Hid _ := eany_next (p := p) hlt
      have HM : Hid _ := mem_at hlt
      obtain ⟨b0, off, cap, hveq, hc⟩ := (HV.out.below BW.out).some' (by omega)
      simp only [Value.slice.injEq] at hveq
      obtain ⟨rfl, -, rfl⟩ := hveq
      obtain ⟨e0, e1, e2⟩ := hc k hlt
      clear hc
      have hok := HB.out.ok _ (mem_at hlt)
      obtain ⟨p, hpe⟩ : ∃ p, at3 es k = p := ⟨_, rfl⟩
      rw [hpe] at e0 e1 e2 hok
      have HPE : Hid _ := hpe
      rw [hpe] at HN HM
      clear hpe
      obtain ⟨x, y, c⟩ := p
      simp only at e0 e1 e2 hok
      obtain ⟨ok1, ok2, ok3, ok4, ok5, ok6⟩ := hok
      obtain ⟨x, rfl⟩ := Int.eq_ofNat_of_zero_le ok1
      obtain ⟨y, rfl⟩ := Int.eq_ofNat_of_zero_le ok3
      have hxN : x < N := by omega
      have hyN : y < N := by omega
      go_wp2_with fail
      refine (HA.out.ask wr BW.out x y c hxN hyN).mono ?_
      rintro e w2 ⟨rfl, b2⟩
      have BX : Hid (Below w.heap.size w w2) := bthen BW.out b2
      clear b2
      cases hq : p ((x : Int), (y : Int), c) with
      | true =>
        have HQ : Hid (es.any p = true) := by unfold Hid; rw [List.any_eq_true]; exact ⟨_, HM.out, hq⟩
        clear hq
        go_wp2_with fail
        go_ret
        exact ⟨⟨k, rfl, by omega, by omega, by rw [HQ.out]; exact decide_eq_true (by omega)⟩, BX.out⟩
      | false =>
        have HF : Hid ((es.take (k + 1)).any p = false) := by unfold Hid; rw [HN.out, HE.out, hq]; rfl
        clear hq
        go_wp2_with fail
        go_roundw
        case rel => exact ⟨k + 1, by go_num, by omega, HF, BX.out⟩
        case measure => simp [intOf]; omega
    · obtain rfl : k = es.length := by omega
      have HF : Hid (es.any p = false) := by have := HE.out; rw [List.take_length] at this; exact this
      go_wp2_with fail
      go_ret
      exact ⟨⟨-1, rfl, by omega, by omega, by rw [HF.out]; rfl⟩, BW.out⟩
set_option maxRecDepth 100000 in
set_option maxHeartbeats 8000000 in
theorem con (L N : Nat) (v : Value) (es : List E) (p : E → Bool) (w : World) (hv : SlE w v es) (hb : Rnt N es) (ha : Asks w L N p) :
    Calls Try.prog 27 #[v, .func (.func 28) #[] #[.pointer (some ⟨L, 0, none⟩)]] w fun e w' => e = .returned (.bool (es.any p)) ∧ Below w.heap.size w w' := by
  obtain ⟨a0, c0, rfl⟩ := hv.val
  have HI : Hid _ := fun (_ : Unit) => idx L N (.slice a0 es.length c0) es p w hv hb ha
  clear hv hb ha
  go_enter Try.func27, Try.ntmps27
  go_wp2_with fail
  refine (HI.out ()).mono ?_
  rintro e w1 ⟨⟨z, rfl, hz1, hz2, hz⟩, b1⟩
  have HB : Hid _ := b1
  have HZ : Hid _ := hz
  clear b1 hz
  go_wp2_with fail
  go_ret
  exact ⟨ret_bool HZ.out, HB.out⟩
set_option maxRecDepth 100000 in
set_option maxHeartbeats 8000000 in
theorem ask (N x y L : Nat) (c : Int) (av : Value) (f : Nat → Int) (w : World) (hx : x < N) (hy : y < N) (hl : w.cell? ⟨L, 0, none⟩ = some av) (hof : SlI w av (lst N f)) :
    Calls Try.prog 28 #[.agg #[.int .i64 ((x : Nat) : Int), .int .i64 ((y : Nat) : Int), .int .i64 c], .pointer (some ⟨L, 0, none⟩)] w fun e w' => e = .returned (.bool (decide (f y ≤ f x))) ∧ Below w.heap.size w w' := by
  obtain ⟨g, off, cap, rfl, hc, hle⟩ := hof.some2 (by rw [lst_length]; omega)
  rw [lst_length] at hc hle hl
  have k1 := hc x hx
  have k2 := hc y hy
  rw [lst_at hx] at k1
  rw [lst_at hy] at k2
  clear hc
  have B0 : Hid (Below w.heap.size w (w.alloc (.cells #[.int .i64 ((x : Nat) : Int), .int .i64 ((y : Nat) : Int), .int .i64 c] 34))) := balloc (Below.refl _ _) _
  have D0 : Hid _ := box3_new w (x : Int) (y : Int) (.int .i64 c) 34
  have hxi : (x : Int) < (N : Int) := by omega
  have hyi : (y : Int) < (N : Int) := by omega
  obtain ⟨a, ha⟩ : ∃ a, f x = a := ⟨_, rfl⟩
  obtain ⟨b, hb⟩ : ∃ b, f y = b := ⟨_, rfl⟩
  rw [ha] at k1
  rw [hb] at k2
  rw [ha, hb]
  have HA : Hid _ := ha
  have HBB : Hid _ := hb
  clear ha hb
  go_enter Try.func28, Try.ntmps28
  go_upto_region 1 with fail
  have k1 := kept B0.out k1
  have k2 := kept B0.out k2
  have hl := kept B0.out hl
  obtain ⟨d0, d1, d2⟩ := D0.out
  generalize w.alloc (.cells #[.int .i64 ((x : Nat) : Int), .int .i64 ((y : Nat) : Int), .int .i64 c] 34) = W0 at *
  go_quiet (fail)
  go_wp2_with fail
  go_ret
  exact ⟨rfl, bdrewN B0.out nq⟩
end Q28
namespace Q29
structure Asks (w : World) (L N : Nat) (p : E → Bool) : Prop where
  ask : ∀ w', Below w.heap.size w w' → ∀ (x y : Nat) (c : Int), x < N → y < N → Calls Try.prog 29 #[.agg #[.int .i64 ((x : Nat) : Int), .int .i64 ((y : Nat) : Int), .int .i64 c], .pointer (some ⟨L, 0, none⟩)] w' fun e w2 => e = .returned (.bool (p ((x : Int), (y : Int), c))) ∧ Below w'.heap.size w' w2
set_option maxRecDepth 100000 in
set_option maxHeartbeats 8000000 in
theorem idx (L N : Nat) (v : Value) (es : List E) (p : E → Bool) (w : World) (hv : SlE w v es) (hb : Rnt N es) (ha : Asks w L N p) :
    Calls Try.prog 54 #[v, .func (.func 29) #[] #[.pointer (some ⟨L, 0, none⟩)]] w fun e w' => (∃ z : Int, e = .returned (.int .i64 z) ∧ -1 ≤ z ∧ z ≤ 600 ∧ decide (0 ≤ z) = es.any p) ∧ Below w.heap.size w w' := by
  obtain ⟨a0, c0, rfl⟩ := hv.val
  have HV : Hid _ := hv
  have HB : Hid _ := hb
  have HA : Hid _ := ha
  have hlen := hb.len
  clear hv hb ha
  go_enter Try.func54, Try.ntmps54
  go_wp2_with fail
  go_loopw [8] (fun z wr => ∃ k : Nat, z = .int .i64 k ∧ k ≤ es.length ∧ Hid ((es.take k).any p = false) ∧ Below w.heap.size w wr) (fun z _ => es.length - (intOf z).toNat)
  case atStart => exact ⟨0, rfl, Nat.zero_le _, rfl, Below.refl _ _⟩
  case round =>
    obtain ⟨k, rfl, hk, HE, hbw⟩ := hrel
    have BW : Hid (Below w.heap.size w wr) := hbw
    clear hbw
    by_cases hlt : k < es.length
    · have hki : (k : Int) < (es.length : Int) := by omega
      have HN : Hid _ := eany_next (p := p) hlt
      have HM : Hid _ := mem_at hlt
      obtain ⟨b0, off, cap, hveq, hc⟩ := (HV.out.below BW.out).some' (by omega)
      simp only [Value.slice.injEq] at hveq
      obtain ⟨rfl, -, rfl⟩ := hveq
      obtain ⟨e0, e1, e2⟩ := hc k hlt
      clear hc
      have hok := HB.out.ok _ (mem_at hlt)
      obtain ⟨p, hpe⟩ : ∃ p, at3 es k = p := ⟨_, rfl⟩
      rw [hpe] at e0 e1 e2 hok
      have HPE : Hid _ := hpe
      rw [hpe] at HN HM
      clear hpe
      obtain ⟨x, y, c⟩ := p
      simp only at e0 e1 e2 hok
      obtain ⟨ok1, ok2, ok3, ok4, ok5, ok6⟩ := hok
      obtain ⟨x, rfl⟩ := Int.eq_ofNat_of_zero_le ok1
      obtain ⟨y, rfl⟩ := Int.eq_ofNat_of_zero_le ok3
      have hxN : x < N := by omega
      have hyN : y < N := by omega
      go_wp2_with fail
      refine (HA.out.ask wr BW.out x y c hxN hyN).mono ?_
      rintro e w2 ⟨rfl, b2⟩
      have BX : Hid (Below w.heap.size w w2) := bthen BW.out b2
      clear b2
      cases hq : p ((x : Int), (y : Int), c) with
      | true =>
        have HQ : Hid (es.any p = true) := by unfold Hid; rw [List.any_eq_true]; exact ⟨_, HM.out, hq⟩
        clear hq
        go_wp2_with fail
        go_ret
        exact ⟨⟨k, rfl, by omega, by omega, by rw [HQ.out]; exact decide_eq_true (by omega)⟩, BX.out⟩
      | false =>
        have HF : Hid ((es.take (k + 1)).any p = false) := by unfold Hid; rw [HN.out, HE.out, hq]; rfl
        clear hq
        go_wp2_with fail
        go_roundw
        case rel => exact ⟨k + 1, by go_num, by omega, HF, BX.out⟩
        case measure => simp [intOf]; omega
    · obtain rfl : k = es.length := by omega
      have HF : Hid (es.any p = false) := by have := HE.out; rw [List.take_length] at this; exact this
      go_wp2_with fail
      go_ret
      exact ⟨⟨-1, rfl, by omega, by omega, by rw [HF.out]; rfl⟩, BW.out⟩
set_option maxRecDepth 100000 in
set_option maxHeartbeats 8000000 in
theorem con (L N : Nat) (v : Value) (es : List E) (p : E → Bool) (w : World) (hv : SlE w v es) (hb : Rnt N es) (ha : Asks w L N p) :
    Calls Try.prog 27 #[v, .func (.func 29) #[] #[.pointer (some ⟨L, 0, none⟩)]] w fun e w' => e = .returned (.bool (es.any p)) ∧ Below w.heap.size w w' := by
  obtain ⟨a0, c0, rfl⟩ := hv.val
  have HI : Hid _ := fun (_ : Unit) => idx L N (.slice a0 es.length c0) es p w hv hb ha
  clear hv hb ha
  go_enter Try.func27, Try.ntmps27
  go_wp2_with fail
  refine (HI.out ()).mono ?_
  rintro e w1 ⟨⟨z, rfl, hz1, hz2, hz⟩, b1⟩
  have HB : Hid _ := b1
  have HZ : Hid _ := hz
  clear b1 hz
  go_wp2_with fail
  go_ret
  exact ⟨ret_bool HZ.out, HB.out⟩
set_option maxRecDepth 100000 in
set_option maxHeartbeats 8000000 in
theorem ask (N x y L : Nat) (c : Int) (av : Value) (f : Nat → Int) (w : World) (hx : x < N) (hy : y < N) (hl : w.cell? ⟨L, 0, none⟩ = some av) (hof : SlI w av (lst N f)) :
    Calls Try.prog 29 #[.agg #[.int .i64 ((x : Nat) : Int), .int .i64 ((y : Nat) : Int), .int .i64 c], .pointer (some ⟨L, 0, none⟩)] w fun e w' => e = .returned (.bool (f x == f y)) ∧ Below w.heap.size w w' := by
  obtain ⟨g, off, cap, rfl, hc, hle⟩ := hof.some2 (by rw [lst_length]; omega)
  rw [lst_length] at hc hle hl
  have k1 := hc x hx
  have k2 := hc y hy
  rw [lst_at hx] at k1
  rw [lst_at hy] at k2
  clear hc
  have B0 : Hid (Below w.heap.size w (w.alloc (.cells #[.int .i64 ((x : Nat) : Int), .int .i64 ((y : Nat) : Int), .int .i64 c] 34))) := balloc (Below.refl _ _) _
  have D0 : Hid _ := box3_new w (x : Int) (y : Int) (.int .i64 c) 34
  have hxi : (x : Int) < (N : Int) := by omega
  have hyi : (y : Int) < (N : Int) := by omega
  obtain ⟨a, ha⟩ : ∃ a, f x = a := ⟨_, rfl⟩
  obtain ⟨b, hb⟩ : ∃ b, f y = b := ⟨_, rfl⟩
  rw [ha] at k1
  rw [hb] at k2
  rw [ha, hb]
  have HA : Hid _ := ha
  have HBB : Hid _ := hb
  clear ha hb
  go_enter Try.func29, Try.ntmps29
  go_upto_region 1 with fail
  have k1 := kept B0.out k1
  have k2 := kept B0.out k2
  have hl := kept B0.out hl
  obtain ⟨d0, d1, d2⟩ := D0.out
  generalize w.alloc (.cells #[.int .i64 ((x : Nat) : Int), .int .i64 ((y : Nat) : Int), .int .i64 c] 34) = W0 at *
  go_quiet (fail)
  go_wp2_with fail
  go_ret
  exact ⟨rfl, bdrewN B0.out nq⟩
end Q29
namespace Q30
structure Asks (w : World) (V L M N : Nat) (p : E → Bool) : Prop where
  ask : ∀ w', Below w.heap.size w w' → ∀ (x y : Nat) (c : Int), x < N → y < N → -10000 ≤ c → c ≤ 10000 → Calls Try.prog 30 #[.agg #[.int .i64 ((x : Nat) : Int), .int .i64 ((y : Nat) : Int), .int .i64 c], .pointer (some ⟨V, 0, none⟩), .pointer (some ⟨L, 0, none⟩), .pointer (some ⟨M, 0, none⟩)] w' fun e w2 => e = .returned (.bool (p ((x : Int), (y : Int), c))) ∧ Below w'.heap.size w' w2
set_option maxRecDepth 100000 in
set_option maxHeartbeats 8000000 in
theorem idx (V L M N : Nat) (v : Value) (es : List E) (p : E → Bool) (w : World) (hv : SlE w v es) (hb : Rnt N es) (ha : Asks w V L M N p) :
    Calls Try.prog 54 #[v, .func (.func 30) #[] #[.pointer (some ⟨V, 0, none⟩), .pointer (some ⟨L, 0, none⟩), .pointer (some ⟨M, 0, none⟩)]] w fun e w' => (∃ z : Int, e = .returned (.int .i64 z) ∧ -1 ≤ z ∧ z ≤ 600 ∧ decide (0 ≤ z) = es.any p) ∧ Below w.heap.size w w' := by
  obtain ⟨a0, c0, rfl⟩ := hv.val
  have HV : Hid _ := hv
  have HB : Hid _ := hb
  have HA : Hid _ := ha
  have hlen := hb.len
  clear hv hb ha
  go_enter Try.func54, Try.ntmps54
  go_wp2_with fail
  go_loopw [8] (fun z wr => ∃ k : Nat, z = .int .i64 k ∧ k ≤ es.length ∧ Hid ((es.take k).any p = false) ∧ Below w.heap.size w wr) (fun z _ => es.length - (intOf z).toNat)
  case atStart => exact ⟨0, rfl, Nat.zero_le _, rfl, Below.refl _ _⟩
  case round =>
    obtain ⟨k, rfl, hk, HE, hbw⟩ := hrel
    have BW : Hid (Below w.heap.size w wr) := hbw
    clear hbw
    by_cases hlt : k < es.length
    · have hki : (k : Int) < (es.length : Int) := by omega
      have HN : Hid _ := eany_next (p := p) hlt
      have HM : Hid _ := mem_at hlt
      obtain ⟨b0, off, cap, hveq, hc⟩ := (HV.out.below BW.out).some' (by omega)
      simp only [Value.slice.injEq] at hveq
      obtain ⟨rfl, -, rfl⟩ := hveq
      obtain ⟨e0, e1, e2⟩ := hc k hlt
      clear hc
      have hok := HB.out.ok _ (mem_at hlt)
      obtain ⟨p, hpe⟩ : ∃ p, at3 es k = p := ⟨_, rfl⟩
      rw [hpe] at e0 e1 e2 hok
      have HPE : Hid _ := hpe
      rw [hpe] at HN HM
      clear hpe
      obtain ⟨x, y, c⟩ := p
      simp only at e0 e1 e2 hok
      obtain ⟨ok1, ok2, ok3, ok4, ok5, ok6⟩ := hok
      obtain ⟨x, rfl⟩ := Int.eq_ofNat_of_zero_le ok1
      obtain ⟨y, rfl⟩ := Int.eq_ofNat_of_zero_le ok3
      have hxN : x < N := by omega
      have hyN : y < N := by omega
      go_wp2_with fail
      refine (HA.out.ask wr BW.out x y c hxN hyN ok5 ok6).mono ?_
      rintro e w2 ⟨rfl, b2⟩
      have BX : Hid (Below w.heap.size w w2) := bthen BW.out b2
      clear b2
      cases hq : p ((x : Int), (y : Int), c) with
      | true =>
        have HQ : Hid (es.any p = true) := by unfold Hid; rw [List.any_eq_true]; exact ⟨_, HM.out, hq⟩
        clear hq
        go_wp2_with fail
        go_ret
        exact ⟨⟨k, rfl, by omega, by omega, by rw [HQ.out]; exact decide_eq_true (by omega)⟩, BX.out⟩
      | false =>
        have HF : Hid ((es.take (k + 1)).any p = false) := by unfold Hid; rw [HN.out, HE.out, hq]; rfl
        clear hq
        go_wp2_with fail
        go_roundw
        case rel => exact ⟨k + 1, by go_num, by omega, HF, BX.out⟩
        case measure => simp [intOf]; omega
    · obtain rfl : k = es.length := by omega
      have HF : Hid (es.any p = false) := by have := HE.out; rw [List.take_length] at this; exact this
      go_wp2_with fail
      go_ret
      exact ⟨⟨-1, rfl, by omega, by omega, by rw [HF.out]; rfl⟩, BW.out⟩
set_option maxRecDepth 100000 in
set_option maxHeartbeats 8000000 in
theorem con (V L M N : Nat) (v : Value) (es : List E) (p : E → Bool) (w : World) (hv : SlE w v es) (hb : Rnt N es) (ha : Asks w V L M N p) :
    Calls Try.prog 27 #[v, .func (.func 30) #[] #[.pointer (some ⟨V, 0, none⟩), .pointer (some ⟨L, 0, none⟩), .pointer (some ⟨M, 0, none⟩)]] w fun e w' => e = .returned (.bool (es.any p)) ∧ Below w.heap.size w w' := by
  obtain ⟨a0, c0, rfl⟩ := hv.val
  have HI : Hid _ := fun (_ : Unit) => idx V L M N (.slice a0 es.length c0) es p w hv hb ha
  clear hv hb ha
  go_enter Try.func27, Try.ntmps27
  go_wp2_with fail
  refine (HI.out ()).mono ?_
  rintro e w1 ⟨⟨z, rfl, hz1, hz2, hz⟩, b1⟩
  have HB : Hid _ := b1
  have HZ : Hid _ := hz
  clear b1 hz
  go_wp2_with fail
  go_ret
  exact ⟨ret_bool HZ.out, HB.out⟩
set_option maxRecDepth 100000 in
set_option maxHeartbeats 8000000 in
theorem ask (N x y V L M vv : Nat) (c m : Int) (av : Value) (f : Nat → Int) (w : World) (hx : x < N) (hy : y < N) (hc1 : -10000 ≤ c ∧ c ≤ 10000) (hf : 0 ≤ f x ∧ f x ≤ 1000000) (hl : w.cell? ⟨L, 0, none⟩ = some av) (hof : SlI w av (lst N f)) (h0 : w.cell? ⟨V, 0, none⟩ = some (.int .i64 ((vv : Nat) : Int))) (h2 : w.cell? ⟨M, 0, none⟩ = some (.int .i64 m)) :
    Calls Try.prog 30 #[.agg #[.int .i64 ((x : Nat) : Int), .int .i64 ((y : Nat) : Int), .int .i64 c], .pointer (some ⟨V, 0, none⟩), .pointer (some ⟨L, 0, none⟩), .pointer (some ⟨M, 0, none⟩)] w fun e w' => e = .returned (.bool (decide (y = vv) && (f x + c == m))) ∧ Below w.heap.size w w' := by
  obtain ⟨g, off, cap, rfl, hc, hle⟩ := hof.some2 (by rw [lst_length]; omega)
  rw [lst_length] at hc hle hl
  have k1 := hc x hx
  have k2 := hc y hy
  rw [lst_at hx] at k1
  rw [lst_at hy] at k2
  clear hc
  have B0 : Hid (Below w.heap.size w (w.alloc (.cells #[.int .i64 ((x : Nat) : Int), .int .i64 ((y : Nat) : Int), .int .i64 c] 34))) := balloc (Below.refl _ _) _
  have D0 : Hid _ := box3_new w (x : Int) (y : Int) (.int .i64 c) 34
  have hxi : (x : Int) < (N : Int) := by omega
  have hyi : (y : Int) < (N : Int) := by omega
  obtain ⟨a, ha⟩ : ∃ a, f x = a := ⟨_, rfl⟩
  obtain ⟨b, hb⟩ : ∃ b, f y = b := ⟨_, rfl⟩
  rw [ha] at k1
  rw [hb] at k2
  rw [ha] at hf ⊢
  obtain ⟨sm, hsm⟩ : ∃ sm, a + c = sm := ⟨_, rfl⟩
  have hw : IntKind.i64.wrap sm = sm := by rw [IntKind.wrap_i64]; omega
  rw [hsm]
  have HA : Hid _ := ha
  have HBB : Hid _ := hb
  clear ha hb
  by_cases h1 : y = vv
  · have t1 : ((y : Int) == (vv : Int)) = true := by simp [h1]
    have HD : Hid (decide (y = vv) = true) := decide_eq_true h1
    rw [HD.out, Bool.true_and]
    have H1 : Hid _ := h1
    clear h1
    go_enter Try.func30, Try.ntmps30
    go_upto_region 1 with fail
    have k1 := kept B0.out k1
    have k2 := kept B0.out k2
    have hl := kept B0.out hl
    have h0 := kept B0.out h0
    have h2 := kept B0.out h2
    obtain ⟨d0, d1, d2⟩ := D0.out
    generalize w.alloc (.cells #[.int .i64 ((x : Nat) : Int), .int .i64 ((y : Nat) : Int), .int .i64 c] 34) = W0 at *
    go_quiet (fail)
    go_wp2_with fail
    go_ret
    exact ⟨rfl, bdrewN B0.out nq⟩
  · have t1 : ((y : Int) == (vv : Int)) = false := by simp; omega
    have HD : Hid (decide (y = vv) = false) := decide_eq_false h1
    rw [HD.out, Bool.false_and]
    have H1 : Hid _ := h1
    clear h1
    go_enter Try.func30, Try.ntmps30
    go_upto_region 1 with fail
    have k1 := kept B0.out k1
    have k2 := kept B0.out k2
    have hl := kept B0.out hl
    have h0 := kept B0.out h0
    have h2 := kept B0.out h2
    obtain ⟨d0, d1, d2⟩ := D0.out
    generalize w.alloc (.cells #[.int .i64 ((x : Nat) : Int), .int .i64 ((y : Nat) : Int), .int .i64 c] 34) = W0 at *
    go_quiet (fail)
    go_wp2_with fail
    go_ret
    exact ⟨rfl, bdrewN B0.out nq⟩
end Q30
end Go.Proofs.Ytkklgnfimkojlaa
