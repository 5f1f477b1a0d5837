/-
  Contracts: dag's rounds, Order.
-/
import Derived.Test.YtkklgnfimkojlaaKD
import Derived.Test.YtkklgnfimkojlaaKr
namespace Go.Proofs.Ytkklgnfimkojlaa
open Go.RowKit
open Nm Wm Dm Bm Fm Fl Km
attribute [local go_sem ↓] Go.wp_at_zero Go.wp_at_succ

/-- An edge leads from a place to itself. -/
def slf (es : List E) : Bool := es.any (fun e => decide (e.1.toNat = e.2.1.toNat))
/-- Of the first k. -/
def slk (es : List E) (k : Nat) : Bool := (es.take k).any (fun e => decide (e.1.toNat = e.2.1.toNat))
theorem slk_next {es : List E} {k : Nat} (h : k < es.length) : slk es (k + 1) = (slk es k || decide ((at3 es k).1.toNat = (at3 es k).2.1.toNat)) := by
  unfold slk; rw [take_next h, List.any_append]; simp
theorem slf_no {es : List E} : slf es = false ↔ ∀ e ∈ es, e.1.toNat ≠ e.2.1.toNat := by
  unfold slf
  rw [List.any_eq_false]
  constructor
  · intro h e he; simpa using h e he
  · intro h e he; simpa using h e he
set_option maxRecDepth 100000 in
set_option maxHeartbeats 8000000 in
theorem rounds_any (N : Nat) (v : Value) (es : List E) (w : World) (hv : SlE w v es) (hb : Rnt N es) :
    Calls Try.prog 44 #[.agg #[.int .i64 N, v]] w fun e w' => e = .returned (.bool (slf es)) ∧ Below w.heap.size w w' := by
  obtain ⟨a0, c0, rfl⟩ := hv.val
  have HV : Hid _ := hv
  have HB : Hid _ := hb
  have hlen := hb.len
  obtain ⟨q, hq⟩ : ∃ q, slf es = q := ⟨_, rfl⟩
  have HQ : Hid _ := hq
  rw [hq]
  clear hv hb hq
  go_enter Try.func44, Try.ntmps44
  go_wp2_with fail
  have B0 : Hid (Below w.heap.size w (w.alloc (.cells #[.int .i64 N, .slice a0 es.length c0] 24))) := balloc (Below.refl _ _) _
  generalize w.alloc (.cells #[.int .i64 N, .slice a0 es.length c0] 24) = W0 at *
  go_loopw [8] (fun z wr => ∃ k : Nat, z = .int .i64 k ∧ k ≤ es.length ∧ slk es k = false ∧ Below w.heap.size w wr) (fun z _ => es.length - (intOf z).toNat)
  case atStart => exact ⟨0, rfl, Nat.zero_le _, rfl, B0.out⟩
  case round =>
    obtain ⟨k, rfl, hk, he, hbr⟩ := hrel
    have HE : Hid _ := he
    have BW : Hid (Below w.heap.size w wr) := hbr
    clear he hbr
    by_cases hlt : k < es.length
    · have hki : (k : Int) < (es.length : Int) := by omega
      have HN : Hid _ := slk_next hlt
      have HM : Hid _ := mem_at hlt
      obtain ⟨b0, off, cap, hveq, hc⟩ := (HV.out.below BW.out).some' (by omega)
      simp only [Value.slice.injEq] at hveq
      obtain ⟨rfl, -, rfl⟩ := hveq
      obtain ⟨e0, e1, e2⟩ := hc k hlt
      clear hc
      have hok := HB.out.ok _ (mem_at hlt)
      obtain ⟨p, hpe⟩ : ∃ p, at3 es k = p := ⟨_, rfl⟩
      rw [hpe] at e0 e1 e2 hok
      have HPE : Hid _ := hpe
      rw [hpe] at HN HM
      clear hpe
      obtain ⟨x, y, c⟩ := p
      simp only at e0 e1 e2 hok
      obtain ⟨ok1, ok2, ok3, ok4, ok5, ok6⟩ := hok
      obtain ⟨x, rfl⟩ := Int.eq_ofNat_of_zero_le ok1
      obtain ⟨y, rfl⟩ := Int.eq_ofNat_of_zero_le ok3
      have hxN : x < N := by omega
      have hyN : y < N := by omega
      have B2 : Hid (Below w.heap.size w (wr.alloc (.cells #[.int .i64 x, .int .i64 y, .int .i64 c] 34))) := balloc BW.out _
      have D1 : Hid _ := box3_new wr (x : Int) (y : Int) (.int .i64 c) 34
      obtain ⟨d0, d1, d2⟩ := D1.out
      by_cases hxy : x = y
      · have t1 : ((x : Int) == (y : Int)) = true := by simp [hxy]
        have HT : Hid (q = true) := by rw [← HQ.out]; unfold slf; rw [List.any_eq_true]; exact ⟨_, HM.out, by simp [hxy]⟩
        have HX : Hid _ := hxy
        clear hxy
        go_wp2_with fail
        go_ret
        exact ⟨by rw [HT.out]; rfl, B2.out⟩
      · have t1 : ((x : Int) == (y : Int)) = false := by simp; omega
        have HT : Hid (slk es (k + 1) = false) := by unfold Hid; rw [HN.out, HE.out]; simp [hxy]
        have HX : Hid _ := hxy
        clear hxy
        go_wp2_with fail
        go_roundw
        case rel => exact ⟨k + 1, by go_num, by omega, HT.out, B2.out⟩
        case measure => simp [intOf]; omega
    · obtain rfl : k = es.length := by omega
      have HT : Hid (q = false) := by rw [← HQ.out]; have := HE.out; unfold slk at this; rw [List.take_length] at this; exact this
      go_wp2_with fail
      go_ret
      exact ⟨by rw [HT.out]; rfl, BW.out⟩
set_option maxRecDepth 100000 in
set_option maxHeartbeats 8000000 in
theorem dord_net (n : Int) (v : Value) (es : List E) (w : World) (hv : SlE w v es) (hlen : es.length ≤ 9223372036854775807) (hc : nck n es ≠ 0) :
    Calls Try.prog 17 #[.agg #[.int .i64 n, v]] w fun e w' => e = .returned (.tuple #[.slice none 0 0, .int .i64 (nck n es)]) ∧ Below w.heap.size w w' := by
  obtain ⟨a0, c0, rfl⟩ := hv.val
  have HV : Hid _ := hv
  have HC : Hid _ := hc
  have hz : (nck n es != 0) = true := by simp [hc]
  clear hv hc
  go_enter Try.func17, Try.ntmps17
  go_wp2_with fail
  have B0 : Hid (Below w.heap.size w (w.alloc (.cells #[.int .i64 n, .slice a0 es.length c0] 24))) := balloc (Below.refl _ _) _
  generalize w.alloc (.cells #[.int .i64 n, .slice a0 es.length c0] 24) = W0 at *
  refine (cord_net n _ es W0 (HV.out.below B0.out) hlen HC.out).mono ?_
  rintro e w1 ⟨rfl, b1⟩
  have B1 : Hid (Below w.heap.size w w1) := bthen B0.out b1
  clear b1 B0
  go_wp2_with fail
  go_ret2
  exact ⟨rfl, B1.out⟩
/-- The order of the knots, as a name. -/
def ordk (N : Nat) (es : List E) : List Nat := ord (lk (kn (fwb (fun _ => true) es N)) es) (kl (kn (fwb (fun _ => true) es N)) N)
/-- There is an order. -/
def okd (N : Nat) (es : List E) : Prop := ¬ (ordk N es).length < N ∧ ∀ e ∈ es, e.1.toNat ≠ e.2.1.toNat
theorem okd_acy {N : Nat} {es : List E} (h : okd N es) : Acy N es (kn (fwb (fun _ => true) es N)) := acy_of_c h.1 h.2
set_option maxRecDepth 100000 in
set_option maxHeartbeats 8000000 in
theorem dord (N : Nat) (v : Value) (es : List E) (w : World) (hv : SlE w v es) (hb : Rnt N es) :
    Calls Try.prog 17 #[.agg #[.int .i64 N, v]] w fun e w' => ((okd N es ∧ ∃ ov, e = .returned (.tuple #[ov, .int .i64 0]) ∧ Is w' w.heap.size ov (ints (ordk N es))) ∨ (¬ okd N es ∧ e = .returned (.tuple #[.slice none 0 0, .int .i64 6]))) ∧ Below w.heap.size w w' := by
  obtain ⟨a0, c0, rfl⟩ := hv.val
  have HV : Hid _ := hv
  have HB : Hid _ := hb
  have hn64 := hb.n64
  have HC : Hid _ := fun (w : World) (hv : SlE w (.slice a0 es.length c0) es) => cord_yes N _ es w hv hb
  obtain ⟨C, hC⟩ : ∃ C, ordk N es = C := ⟨_, rfl⟩
  have HCE : Hid _ := hC
  obtain ⟨P, hP⟩ : ∃ P, okd N es = P := ⟨_, rfl⟩
  have HP : Hid (P ↔ ¬ C.length < N ∧ slf es = false) := by rw [← hP, ← hC]; unfold Hid okd; rw [slf_no]
  rw [hC, hP]
  clear hv hb hC hP
  go_enter Try.func17, Try.ntmps17
  go_wp2_with fail
  have P0 : Hid _ := box2_new w (N : Int) (.slice a0 es.length c0) 24
  have B0 : Hid (Below w.heap.size w (w.alloc (.cells #[.int .i64 N, .slice a0 es.length c0] 24))) := balloc (Below.refl _ _) _
  generalize w.alloc (.cells #[.int .i64 N, .slice a0 es.length c0] 24) = W0 at *
  refine (HC.out W0 (HV.out.below B0.out)).mono ?_
  rintro e w1 ⟨ov, rfl, i1, b1⟩
  have I1 : Hid (Is w1 W0.heap.size ov (ints C)) := by rw [← HCE.out]; exact i1
  have P1 : Hid _ := P0.out.below b1
  have B1 : Hid (Below w.heap.size w w1) := bthen B0.out b1
  have HS : Hid (w.heap.size ≤ W0.heap.size) := B0.out.size
  obtain ⟨p0, p1⟩ := P1.out
  clear i1 b1 P0 B0 HC
  obtain ⟨ao, co, rfl⟩ := owns_own I1.out.own
  rw [ints_length] at I1 ⊢
  by_cases hl : C.length < N
  · have hli : (C.length : Int) < (N : Int) := by omega
    have HL : Hid (¬ P) := fun h => (HP.out.1 h).1 hl
    go_wp2_with fail
    go_ret2
    exact ⟨.inr ⟨HL.out, rfl⟩, B1.out⟩
  · have hli : ¬ (C.length : Int) < (N : Int) := by omega
    have HL : Hid _ := hl
    clear hl
    go_wp2_with fail
    refine (rounds_any N _ es w1 (HV.out.below B1.out) HB.out).mono ?_
    rintro e w2 ⟨rfl, b2⟩
    have I2 : Hid _ := I1.out.below b2
    have B2 : Hid (Below w.heap.size w w2) := bthen B1.out b2
    clear b2
    cases hs : slf es with
    | true =>
      have HX : Hid (¬ P) := fun h => by have := (HP.out.1 h).2; rw [hs] at this; cases this
      clear hs
      go_wp2_with fail
      go_ret2
      exact ⟨.inr ⟨HX.out, rfl⟩, B2.out⟩
    | false =>
      have HX : Hid P := HP.out.2 ⟨HL.out, hs⟩
      clear hs
      go_wp2_with fail
      go_ret2
      exact ⟨.inl ⟨HX.out, _, rfl, I2.out.mono HS.out⟩, B2.out⟩
end Go.Proofs.Ytkklgnfimkojlaa
