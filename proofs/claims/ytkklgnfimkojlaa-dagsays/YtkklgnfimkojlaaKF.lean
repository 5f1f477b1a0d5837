/-
  Contracts: which knots an edge leads to from which, as the document asks it.
-/
import Derived.Test.YtkklgnfimkojlaaKC
import Derived.Test.YtkklgnfimkojlaaKq
import Derived.Test.YtkklgnfimkojlaaWA
namespace Go.Proofs.Ytkklgnfimkojlaa
open Go.RowKit
open Nm Wm Dm Bm Fm Km
attribute [local go_sem ↓] Go.wp_at_zero Go.wp_at_succ

/-- What the document's question reads: the net's box, the knots' box. -/
structure Lg (w : World) (B OB N : Nat) (u ou : Value) (K : Nat → Nat) (es : List E) : Prop where
  b1 : w.cell? ⟨B, 1, none⟩ = some u
  ob : w.cell? ⟨OB, 0, none⟩ = some ou
  es : SlE w u es
  of : SlI w ou (lst N (fun x => (K x : Nat)))
theorem Lg.below {w w' : World} {B OB N : Nat} {u ou : Value} {K : Nat → Nat} {es : List E} (h : Lg w B OB N u ou K es) (hb : Below w.heap.size w w') : Lg w' B OB N u ou K es :=
  ⟨kept hb h.b1, kept hb h.ob, h.es.below hb, h.of.below hb⟩
set_option maxRecDepth 100000 in
set_option maxHeartbeats 8000000 in
theorem ask43 (N a b x y OB A B2 : Nat) (c : Int) (ou : Value) (K : Nat → Nat) (w : World) (hx : x < N) (hy : y < N) (hob : w.cell? ⟨OB, 0, none⟩ = some ou) (hof : SlI w ou (lst N (fun x => (K x : Nat)))) (ha : w.cell? ⟨A, 0, none⟩ = some (.int .i64 ((a : Nat) : Int))) (hb : w.cell? ⟨B2, 0, none⟩ = some (.int .i64 ((b : Nat) : Int))) :
    Calls Try.prog 43 #[.agg #[.int .i64 ((x : Nat) : Int), .int .i64 ((y : Nat) : Int), .int .i64 c], .pointer (some ⟨OB, 0, none⟩), .pointer (some ⟨A, 0, none⟩), .pointer (some ⟨B2, 0, none⟩)] w fun e w' => e = .returned (.bool (edp K a b ((x : Int), (y : Int), c))) ∧ Below w.heap.size w w' := by
  obtain ⟨g, off, cap, rfl, hc, hle⟩ := hof.some2 (by rw [lst_length]; omega)
  rw [lst_length] at hc hle hob
  have k1 := hc x hx
  have k2 := hc y hy
  rw [lst_at hx] at k1
  rw [lst_at hy] at k2
  clear hc
  have B0 : Hid (Below w.heap.size w (w.alloc (.cells #[.int .i64 ((x : Nat) : Int), .int .i64 ((y : Nat) : Int), .int .i64 c] 34))) := balloc (Below.refl _ _) _
  have D0 : Hid _ := box3_new w (x : Int) (y : Int) (.int .i64 c) 34
  have hxi : (x : Int) < (N : Int) := by omega
  have hyi : (y : Int) < (N : Int) := by omega
  go_enter Try.func43, Try.ntmps43
  go_upto_region 1 with fail
  have k1 := kept B0.out k1
  have k2 := kept B0.out k2
  have hob := kept B0.out hob
  have ha := kept B0.out ha
  have hb := kept B0.out hb
  obtain ⟨d0, d1, d2⟩ := D0.out
  generalize w.alloc (.cells #[.int .i64 ((x : Nat) : Int), .int .i64 ((y : Nat) : Int), .int .i64 c] 34) = W0 at *
  by_cases h1 : K x = a
  · by_cases h2 : K y = b
    · have HE : Hid (edp K a b ((x : Int), (y : Int), c) = true) := by unfold Hid edp; simp [h1, h2]
      have t1 : (((K x : Nat) : Int) == (a : Int)) = true := by simp [h1]
      have t2 : (((K y : Nat) : Int) == (b : Int)) = true := by simp [h2]
      have H1 : Hid _ := h1
      have H2 : Hid _ := h2
      clear h1 h2
      go_quiet (fail)
      go_wp2_with fail
      go_ret
      exact ⟨by rw [HE.out]; rfl, bdrewN B0.out nq⟩
    · have HE : Hid (edp K a b ((x : Int), (y : Int), c) = false) := by unfold Hid edp; simp [h2]
      have t1 : (((K x : Nat) : Int) == (a : Int)) = true := by simp [h1]
      have t2 : (((K y : Nat) : Int) == (b : Int)) = false := by simp; omega
      have H1 : Hid _ := h1
      have H2 : Hid _ := h2
      clear h1 h2
      go_quiet (fail)
      go_wp2_with fail
      go_ret
      exact ⟨by rw [HE.out]; rfl, bdrewN B0.out nq⟩
  · have HE : Hid (edp K a b ((x : Int), (y : Int), c) = false) := by unfold Hid edp; simp [h1]
    have t1 : (((K x : Nat) : Int) == (a : Int)) = false := by simp; omega
    have H1 : Hid _ := h1
    clear h1
    go_quiet (fail)
    go_wp2_with fail
    go_ret
    exact ⟨by rw [HE.out]; rfl, bdrewN B0.out nq⟩
theorem any_next {p : E → Bool} {es : List E} {k : Nat} (h : k < es.length) : (es.take (k + 1)).any p = ((es.take k).any p || p (at3 es k)) := by
  rw [take_next h, List.any_append]; simp
set_option maxRecDepth 100000 in
set_option maxHeartbeats 8000000 in
theorem idx43 (N a b OB A B2 : Nat) (v ou : Value) (K : Nat → Nat) (es : List E) (w : World) (hv : SlE w v es) (hb : Rnt N es) (hob : w.cell? ⟨OB, 0, none⟩ = some ou) (hof : SlI w ou (lst N (fun x => (K x : Nat)))) (ha : w.cell? ⟨A, 0, none⟩ = some (.int .i64 ((a : Nat) : Int))) (hb2 : w.cell? ⟨B2, 0, none⟩ = some (.int .i64 ((b : Nat) : Int))) :
    Calls Try.prog 54 #[v, .func (.func 43) #[] #[.pointer (some ⟨OB, 0, none⟩), .pointer (some ⟨A, 0, none⟩), .pointer (some ⟨B2, 0, none⟩)]] w fun e w' => (∃ z : Int, e = .returned (.int .i64 z) ∧ -1 ≤ z ∧ z ≤ 600 ∧ decide (0 ≤ z) = es.any (edp K a b)) ∧ Below w.heap.size w w' := by
  obtain ⟨a0, c0, rfl⟩ := hv.val
  have HV : Hid _ := hv
  have HB : Hid _ := hb
  have HOB : Hid _ := hob
  have HOF : Hid _ := hof
  have HAA : Hid _ := ha
  have HBB : Hid _ := hb2
  have hlen := hb.len
  clear hv hb hob hof ha hb2
  go_enter Try.func54, Try.ntmps54
  go_wp2_with fail
  go_loopw [8] (fun z wr => ∃ k : Nat, z = .int .i64 k ∧ k ≤ es.length ∧ (es.take k).any (edp K a b) = false ∧ Below w.heap.size w wr) (fun z _ => es.length - (intOf z).toNat)
  case atStart => exact ⟨0, rfl, Nat.zero_le _, rfl, Below.refl _ _⟩
  case round =>
    obtain ⟨k, rfl, hk, he, hb⟩ := hrel
    have HE : Hid _ := he
    have BW : Hid (Below w.heap.size w wr) := hb
    clear he hb
    by_cases hlt : k < es.length
    · have hki : (k : Int) < (es.length : Int) := by omega
      obtain ⟨b0, off, cap, hveq, hcl⟩ := (HV.out.below BW.out).some' (by omega)
      simp only [Value.slice.injEq] at hveq
      obtain ⟨rfl, -, rfl⟩ := hveq
      obtain ⟨d0, d1, d2⟩ := hcl k hlt
      clear hcl
      have hok := HB.out.ok _ (mem_at hlt)
      have HN : Hid _ := any_next (p := edp K a b) hlt
      have hmem := mem_at hlt
      obtain ⟨p, hpe⟩ : ∃ p, at3 es k = p := ⟨_, rfl⟩
      rw [hpe] at d0 d1 d2 hok HN hmem
      have HM : Hid _ := hmem
      clear hpe hmem
      obtain ⟨x, y, c⟩ := p
      simp only at d0 d1 d2 hok
      obtain ⟨ok1, ok2, ok3, ok4, ok5, ok6⟩ := hok
      obtain ⟨x, rfl⟩ := Int.eq_ofNat_of_zero_le ok1
      obtain ⟨y, rfl⟩ := Int.eq_ofNat_of_zero_le ok3
      go_wp2_with fail
      refine (ask43 N a b x y OB A B2 c ou K wr (by omega) (by omega) (kept BW.out HOB.out) (HOF.out.below BW.out) (kept BW.out HAA.out) (kept BW.out HBB.out)).mono ?_
      rintro e w2 ⟨rfl, b2⟩
      have BX : Hid (Below w.heap.size w w2) := bthen BW.out b2
      clear b2
      cases hq : edp K a b ((x : Int), (y : Int), c) with
      | true =>
        have HQ : Hid (es.any (edp K a b) = true) := by unfold Hid; rw [List.any_eq_true]; exact ⟨_, HM.out, hq⟩
        clear hq
        go_wp2_with fail
        go_ret
        exact ⟨⟨k, rfl, by omega, by omega, by rw [HQ.out]; exact decide_eq_true (by omega)⟩, BX.out⟩
      | false =>
        rw [HE.out, hq] at HN
        clear hq
        go_wp2_with fail
        go_roundw
        case rel => exact ⟨k + 1, by go_num, by omega, by simpa using HN.out, BX.out⟩
        case measure => simp [intOf]; omega
    · obtain rfl : k = es.length := by omega
      rw [List.take_length] at HE
      go_wp2_with fail
      go_ret
      exact ⟨⟨-1, rfl, by omega, by omega, by rw [HE.out]; rfl⟩, BW.out⟩
set_option maxRecDepth 100000 in
set_option maxHeartbeats 8000000 in
theorem con43 (N a b OB A B2 : Nat) (v ou : Value) (K : Nat → Nat) (es : List E) (w : World) (hv : SlE w v es) (hb : Rnt N es) (hob : w.cell? ⟨OB, 0, none⟩ = some ou) (hof : SlI w ou (lst N (fun x => (K x : Nat)))) (ha : w.cell? ⟨A, 0, none⟩ = some (.int .i64 ((a : Nat) : Int))) (hb2 : w.cell? ⟨B2, 0, none⟩ = some (.int .i64 ((b : Nat) : Int))) :
    Calls Try.prog 27 #[v, .func (.func 43) #[] #[.pointer (some ⟨OB, 0, none⟩), .pointer (some ⟨A, 0, none⟩), .pointer (some ⟨B2, 0, none⟩)]] w fun e w' => e = .returned (.bool (es.any (edp K a b))) ∧ Below w.heap.size w w' := by
  obtain ⟨a0, c0, rfl⟩ := hv.val
  have HI : Hid _ := fun (_ : Unit) => idx43 N a b OB A B2 (.slice a0 es.length c0) ou K es w hv hb hob hof ha hb2
  clear hv hb hob hof ha hb2
  go_enter Try.func27, Try.ntmps27
  go_wp2_with fail
  refine (HI.out ()).mono ?_
  rintro e w1 ⟨⟨z, rfl, hz1, hz2, hz⟩, b1⟩
  have HB : Hid _ := b1
  have HZ : Hid _ := hz
  clear b1 hz
  go_wp2_with fail
  go_ret
  exact ⟨ret_bool HZ.out, HB.out⟩
set_option maxRecDepth 100000 in
set_option maxHeartbeats 8000000 in
theorem ask42 (B OB N a b : Nat) (u ou : Value) (K : Nat → Nat) (es : List E) (w : World) (h : Lg w B OB N u ou K es) (hb : Rnt N es) :
    Calls Try.prog 42 #[.int .i64 ((a : Nat) : Int), .int .i64 ((b : Nat) : Int), .pointer (some ⟨B, 0, none⟩), .pointer (some ⟨OB, 0, none⟩)] w fun e w' => e = .returned (.bool (lk K es a b)) ∧ Below w.heap.size w w' := by
  have HL : Hid _ := h
  have HB : Hid _ := hb
  clear h hb
  have B0 : Hid (Below w.heap.size w (w.alloc (.cells #[.int .i64 ((a : Nat) : Int)] 3))) := balloc (Below.refl _ _) _
  have B1 : Hid (Below w.heap.size w ((w.alloc (.cells #[.int .i64 ((a : Nat) : Int)] 3)).alloc (.cells #[.int .i64 ((b : Nat) : Int)] 3))) := balloc B0.out _
  have b1 := (HL.out.below B1.out).b1
  have A1 : Hid (((w.alloc (.cells #[.int .i64 ((a : Nat) : Int)] 3)).alloc (.cells #[.int .i64 ((b : Nat) : Int)] 3)).cell? ⟨w.heap.size, 0, none⟩ = some (.int .i64 ((a : Nat) : Int))) := kept_alloc (cell_new w _ _ 0 _ rfl)
  have A2 : Hid (((w.alloc (.cells #[.int .i64 ((a : Nat) : Int)] 3)).alloc (.cells #[.int .i64 ((b : Nat) : Int)] 3)).cell? ⟨w.heap.size + 1, 0, none⟩ = some (.int .i64 ((b : Nat) : Int))) := by
    have e : (w.alloc (.cells #[.int .i64 ((a : Nat) : Int)] 3)).heap.size = w.heap.size + 1 := by simp
    have := cell_new (w.alloc (.cells #[.int .i64 ((a : Nat) : Int)] 3)) #[.int .i64 ((b : Nat) : Int)] 3 0 _ rfl
    rw [e] at this
    exact this
  by_cases h1 : a = b
  · have HE : Hid (lk K es a b = false) := by unfold Hid lk; simp [h1]
    have t1 : ((a : Int) != (b : Int)) = false := by simp [h1]
    have H1 : Hid _ := h1
    clear h1
    go_enter Try.func42, Try.ntmps42
    go_wp2_with fail
    go_ret
    exact ⟨by rw [HE.out]; rfl, B1.out⟩
  · have HE : Hid (lk K es a b = es.any (edp K a b)) := by unfold Hid lk; simp [h1]; rfl
    have t1 : ((a : Int) != (b : Int)) = true := by simp; omega
    have H1 : Hid _ := h1
    clear h1
    go_enter Try.func42, Try.ntmps42
    go_wp2_with fail
    refine (con43 N a b OB w.heap.size (w.heap.size + 1) u ou K es _ (HL.out.below B1.out).es HB.out (HL.out.below B1.out).ob (HL.out.below B1.out).of A1.out A2.out).mono ?_
    rintro e w2 ⟨rfl, b2⟩
    have B2 : Hid (Below w.heap.size w w2) := bthen B1.out b2
    clear b2
    go_wp2_with fail
    go_ret
    exact ⟨by rw [HE.out]; rfl, B2.out⟩
end Go.Proofs.Ytkklgnfimkojlaa
