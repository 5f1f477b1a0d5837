/-
  The net of ground is a net, costs above 0, and each edge is there turned: plain mathematics; slices.Contains of an edge that is there; the law's question.
-/
import Derived.Test.YtekeajencihfgaaDoorND
import Derived.Test.YtekeajencihfgaaDoorNB
namespace Go.Proofs.YtekeajencihfgaaDoor
open Go.RowKit
open Gm Nm

theorem mem_am {cs : List Int} {W H : Int} {e : E} (k : Nat) : e ∈ am cs W H k ↔ ∃ i, i < k ∧ e ∈ moves (cl cs W H) W ((i : Int) % W) ((i : Int) / W) := by
  induction k with
  | zero => simp [am]
  | succ k ih =>
    rw [am, List.mem_append, ih]
    constructor
    · rintro (⟨i, hi, h⟩ | h)
      · exact ⟨i, by omega, h⟩
      · exact ⟨k, by omega, h⟩
    · rintro ⟨i, hi, h⟩
      rcases (show i < k ∨ i = k by omega) with h1 | rfl
      · exact .inl ⟨i, h1, h⟩
      · exact .inr h
theorem cl_range {W H : Int} {cs : List Int} (hg : Gd W H cs) (x y : Int) : 0 ≤ cl cs W H x y ∧ cl cs W H x y ≤ 9 := by
  by_cases h : 0 ≤ x ∧ x < W ∧ 0 ≤ y ∧ y < H
  · rw [cl_at h]
    obtain ⟨k1, k2⟩ := idx h.1 h.2.1 h.2.2.1 h.2.2.2
    have := hg.len
    exact hg.cell _ (by omega)
  · rw [cl_out h]; omega
/-- What an edge of the net of ground is. -/
theorem am_edge {cs : List Int} {W H : Int} (hg : Gd W H cs) {e : E} (h : e ∈ am cs W H cs.length) :
    (0 ≤ e.1 ∧ e.1 < cs.length) ∧ (0 ≤ e.2.1 ∧ e.2.1 < cs.length) ∧ (1 ≤ e.2.2 ∧ e.2.2 ≤ 10000) ∧ trn e ∈ am cs W H cs.length := by
  obtain ⟨i, hi, hm⟩ := (mem_am _).1 h
  obtain ⟨k0, k1, k2, k3, k4⟩ := coords hg.w1 (show (0 : Int) ≤ i by omega) (show (i : Int) < W * H by rw [← hg.len]; omega)
  obtain ⟨h0, s, hs, ho, rfl⟩ := mem_moves hm
  obtain ⟨o1, -, -⟩ := opn_iff.1 ho
  have hin := cl_in o1
  have hb := moves_back (W := W) h0 hs ho
  generalize (i : Int) % W = x at *
  generalize (i : Int) / W = y at *
  obtain ⟨j1, j2⟩ := idx hin.1 hin.2.1 hin.2.2.1 hin.2.2.2
  rw [← hg.len] at j2
  have c1 := cl_range hg x y
  have c2 := cl_range hg (x + s.1) (y + s.2.1)
  have hc : 1 ≤ cl cs W H x y + cl cs W H (x + s.1) (y + s.2.1) := by omega
  have hc2 : cl cs W H x y + cl cs W H (x + s.1) (y + s.2.1) ≤ 18 := by omega
  have hm5 : 5 ≤ s.2.2 ∧ s.2.2 ≤ 7 := by
    simp only [steps, List.mem_cons, List.not_mem_nil, or_false] at hs
    rcases hs with rfl | rfl | rfl | rfl | rfl | rfl | rfl | rfl <;> decide
  refine ⟨?_, ?_, ?_, ?_⟩
  · unfold edge; simp only; omega
  · unfold edge; simp only; omega
  · unfold edge; simp only
    have m1 := Int.mul_le_mul hm5.1 hc (by omega) (by omega)
    have m2 := Int.mul_le_mul hm5.2 hc2 (by omega) (by omega)
    omega
  · obtain ⟨t, ht⟩ := Int.eq_ofNat_of_zero_le (show 0 ≤ (y + s.2.1) * W + (x + s.1) by omega)
    refine (mem_am _).2 ⟨t, by omega, ?_⟩
    obtain ⟨e1, e2⟩ := coords_of (y := y + s.2.1) hin.1 hin.2.1
    rw [ht] at e1 e2
    have e1' : (t : Int) % W = x + s.1 := e1
    have e2' : (t : Int) / W = y + s.2.1 := e2
    rw [e1', e2']
    exact hb
theorem am_gn {cs : List Int} {W H : Int} (hg : Gd W H cs) : Gn (cs.length : Int) (am cs W H cs.length) := by
  have hle := hg.le
  have hal := am_length cs W H cs.length
  refine ⟨by omega, by omega, by omega, fun e he => ?_⟩
  obtain ⟨a, b, c, -⟩ := am_edge hg he
  exact ⟨a.1, a.2, b.1, b.2, by omega, c.2⟩
theorem am_nps {cs : List Int} {W H : Int} (hg : Gd W H cs) : nps (cs.length : Int) (am cs W H cs.length) = 0 :=
  nps_ok (nck_zero.2 (am_gn hg)) (fun _ hk => (am_edge hg (mem_at hk)).2.2.1.1)
theorem am_back {cs : List Int} {W H : Int} (hg : Gd W H cs) : ∀ e ∈ am cs W H cs.length, e ∈ (am cs W H cs.length).map trn := fun e he =>
  List.mem_map.2 ⟨trn e, (am_edge hg he).2.2.2, rfl⟩

set_option maxRecDepth 100000 in
set_option maxHeartbeats 4000000 in
theorem index_yes (v : Value) (es : List E) (j : Nat) (x y z : Int) (w : World) (hv : SlE w v es) (hl : es.length ≤ 600) (hj : j < es.length) (he : at3 es j = (x, y, z)) :
    Calls Tryd.prog 20 #[v, .agg #[.int .i64 x, .int .i64 y, .int .i64 z]] w fun e w' => (∃ i : Nat, e = .returned (.int .i64 i)) ∧ Below w.heap.size w w' := by
  obtain ⟨a, c, rfl⟩ := hv.val
  have HV : Hid _ := hv
  have HE : Hid _ := he
  clear hv he
  go_enter Tryd.func20, Tryd.ntmps20
  go_wp2_with fail
  obtain ⟨W1, hW1⟩ : ∃ W1, W1 = w.alloc (.cells #[.int .i64 x, .int .i64 y, .int .i64 z] 39) := ⟨_, rfl⟩
  have BB : Hid (Below w.heap.size w W1) := by rw [hW1]; exact balloc (Below.refl _ _) _
  have HP : Hid (Box3 W1 w.heap.size x y (.int .i64 z)) := by rw [hW1]; exact box3_new w _ _ _ _
  have HW : Hid _ := HV.out.below BB.out
  rw [← hW1]
  clear hW1
  go_loopw [8] (fun t wr => ∃ k : Nat, t = .int .i64 k ∧ k ≤ j ∧ ∃ q, wr = W1.drewN q) (fun t _ => es.length - (intOf t).toNat)
  case atStart => exact ⟨0, rfl, Nat.zero_le _, 0, rfl⟩
  case round =>
    obtain ⟨k, rfl, hk, q, rfl⟩ := hrel
    have hlt : k < es.length := by omega
    have hki : (k : Int) < (es.length : Int) := by omega
    obtain ⟨g, off, cap, hveq, hc⟩ := HW.out.some' (by omega)
    simp only [Value.slice.injEq] at hveq
    obtain ⟨rfl, -, rfl⟩ := hveq
    obtain ⟨c0, c1, c2⟩ := hc k hlt
    clear hc
    obtain ⟨p0, p1, p2⟩ := HP.out
    obtain ⟨p, hp⟩ : ∃ p, at3 es k = p := ⟨_, rfl⟩
    rw [hp] at c0 c1 c2
    obtain ⟨x', y', z'⟩ := p
    simp only at c0 c1 c2
    have HPK : Hid _ := hp
    clear hp
    by_cases hq : x = x' ∧ y = y' ∧ z = z'
    · obtain ⟨rfl, rfl, rfl⟩ := hq
      go_wp2_with fail
      go_quiet (fail)
      go_wp2
      go_ret
      exact ⟨⟨k, rfl⟩, bdrewN (bdrewN BB.out _) _⟩
    · have hkj : k < j := by
        rcases (show k < j ∨ k = j by omega) with h | rfl
        · exact h
        · have := HPK.out.symm.trans HE.out
          simp only [Prod.mk.injEq] at this
          exact absurd ⟨this.1.symm, this.2.1.symm, this.2.2.symm⟩ hq
      cases e1 : (x == x')
      all_goals
        cases e2 : (y == y')
      all_goals
        cases e3 : (z == z')
      all_goals first
        | exact absurd ⟨by simpa using e1, by simpa using e2, by simpa using e3⟩ hq
        | skip
      all_goals
        clear hq
        go_wp2_with fail
        go_quiet (fail)
        go_wp2
        go_roundw
        case rel => exact ⟨k + 1, by go_num, by omega, q + nq, rfl⟩
        case measure => simp [intOf]; omega

set_option maxRecDepth 100000 in
set_option maxHeartbeats 4000000 in
theorem contains_yes (v : Value) (es : List E) (x y z : Int) (w : World) (hv : SlE w v es) (hl : es.length ≤ 600) (he : (x, y, z) ∈ es) :
    Calls Tryd.prog 13 #[v, .agg #[.int .i64 x, .int .i64 y, .int .i64 z]] w fun e w' => e = .returned (.bool true) ∧ Below w.heap.size w w' := by
  obtain ⟨a, c, rfl⟩ := hv.val
  obtain ⟨j, hj, hje⟩ := List.mem_iff_getElem.1 he
  have HE : Hid (at3 es j = (x, y, z)) := by unfold Hid at3; rw [List.getD_eq_getElem?_getD, List.getElem?_eq_getElem hj]; exact hje
  have HV : Hid _ := hv
  clear hv he hje
  go_enter Tryd.func13, Tryd.ntmps13
  go_wp2_with fail
  refine (index_yes _ es j x y z _ (HV.out.below (balloc (Below.refl _ _) _)) hl hj HE.out).mono ?_
  rintro e w1 ⟨⟨i, rfl⟩, b1⟩
  have hi : (0 : Int) ≤ (i : Int) := by omega
  go_wp2_with fail
  go_ret
  exact ⟨rfl, bthen (balloc (Below.refl _ _) _) b1⟩

set_option maxRecDepth 100000 in
set_option maxHeartbeats 4000000 in
/-- The law's question at an edge that is there. -/
theorem ask_no (x y z n : Int) (B : Nat) (kv : Value) (ks : List E) (w : World) (hb : Box2 w B n kv) (hk : SlE w kv ks) (hl : ks.length ≤ 600) (he : (x, y, z) ∈ ks) :
    Calls Tryd.prog 12 #[.agg #[.int .i64 x, .int .i64 y, .int .i64 z], .pointer (some ⟨B, 0, none⟩)] w fun e w' => e = .returned (.bool false) ∧ Below w.heap.size w w' := by
  obtain ⟨a, c, rfl⟩ := hk.val
  have HK : Hid _ := hk
  obtain ⟨p0, p1⟩ := hb.below (balloc (Below.refl _ _) (.cells #[.int .i64 x, .int .i64 y, .int .i64 z] 39))
  clear hk hb
  go_enter Tryd.func12, Tryd.ntmps12
  go_wp2_with fail
  refine (contains_yes _ ks x y z _ (HK.out.below (balloc (Below.refl _ _) _)) hl he).mono ?_
  rintro e w1 ⟨rfl, b1⟩
  go_wp2_with fail
  go_ret
  exact ⟨rfl, bthen (balloc (Below.refl _ _) _) b1⟩

set_option maxRecDepth 100000 in
set_option maxHeartbeats 8000000 in
theorem idx_none (v kv : Value) (es ks : List E) (n : Int) (B : Nat) (w : World) (hv : SlE w v es) (hlen : es.length ≤ 600) (hb : Box2 w B n kv) (hk : SlE w kv ks) (hl : ks.length ≤ 600) (he : ∀ e ∈ es, e ∈ ks) :
    Calls Tryd.prog 19 #[v, .func (.func 12) #[] #[.pointer (some ⟨B, 0, none⟩)]] w fun e w' => e = .returned (.int .i64 (-1)) ∧ Below w.heap.size w w' := by
  obtain ⟨a0, c0, rfl⟩ := hv.val
  have HV : Hid _ := hv
  have HK : Hid _ := hk
  have HX : Hid _ := hb
  have HE : Hid _ := he
  clear hv hk hb he
  go_enter Tryd.func19, Tryd.ntmps19
  go_wp2_with fail
  go_loopw [8] (fun z wr => ∃ k : Nat, z = .int .i64 k ∧ k ≤ es.length ∧ Below w.heap.size w wr) (fun z _ => es.length - (intOf z).toNat)
  case atStart => exact ⟨0, rfl, Nat.zero_le _, Below.refl _ _⟩
  case round =>
    obtain ⟨k, rfl, hk, hb⟩ := hrel
    have HB : Hid (Below w.heap.size w wr) := hb
    clear hb
    by_cases hlt : k < es.length
    · have hki : (k : Int) < (es.length : Int) := by omega
      have HM : Hid _ := HE.out _ (mem_at hlt)
      obtain ⟨b, off, cap, hveq, hcl⟩ := (HV.out.below HB.out).some' (by omega)
      simp only [Value.slice.injEq] at hveq
      obtain ⟨rfl, -, rfl⟩ := hveq
      obtain ⟨d0, d1, d2⟩ := hcl k hlt
      clear hcl
      generalize at3 es k = p at *
      obtain ⟨x, y, z⟩ := p
      simp only at d0 d1 d2
      go_wp2_with fail
      refine (ask_no x y z n B kv ks wr (HX.out.below HB.out) (HK.out.below HB.out) hl HM.out).mono ?_
      rintro e w2 ⟨rfl, b2⟩
      have B2 : Hid (Below w.heap.size w w2) := bthen HB.out b2
      clear b2
      go_wp2_with fail
      go_roundw
      case rel => exact ⟨k + 1, by go_num, by omega, B2.out⟩
      case measure => simp [intOf]; omega
    · have hke : k = es.length := by omega
      subst hke
      go_wp2_with fail
      go_ret
      exact ⟨rfl, HB.out⟩
set_option maxRecDepth 100000 in
set_option maxHeartbeats 8000000 in
theorem con_none (v kv : Value) (es ks : List E) (n : Int) (B : Nat) (w : World) (hv : SlE w v es) (hlen : es.length ≤ 600) (hb : Box2 w B n kv) (hk : SlE w kv ks) (hl : ks.length ≤ 600) (he : ∀ e ∈ es, e ∈ ks) :
    Calls Tryd.prog 11 #[v, .func (.func 12) #[] #[.pointer (some ⟨B, 0, none⟩)]] w fun e w' => e = .returned (.bool false) ∧ Below w.heap.size w w' := by
  obtain ⟨a0, c0, rfl⟩ := hv.val
  have HI : Hid _ := fun (_ : Unit) => idx_none _ kv es ks n B w hv hlen hb hk hl he
  clear hv hb hk he
  go_enter Tryd.func11, Tryd.ntmps11
  go_wp2_with fail
  refine (HI.out ()).mono ?_
  rintro e w1 ⟨rfl, b1⟩
  go_wp2_with fail
  go_ret
  exact ⟨rfl, b1⟩
end Go.Proofs.YtekeajencihfgaaDoor
