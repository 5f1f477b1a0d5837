/-
  Contract: next.
-/
import Derived.Test.YtefikbjjdldomaaPC
import Derived.Deep.LoopGhost
namespace Go.Proofs.Ytefikbjjdldomaa
open Go.RowKit
open _root_.Go.Proofs.Ytefikbjjdldomaa.Nm Wm Dm Sk
open Jp (T3)
attribute [local go_sem ↓] Go.wp_at_zero Go.wp_at_succ

set_option maxRecDepth 100000 in
set_option maxHeartbeats 16000000 in
theorem next_any {w : World} {b : Blk} {T : Nat} {f : Fix} {es : List E} {hl : List Int} {a : Nat} {ky : Int → Int → Int} {s : S} {ord : List Nat} {k : Nat} {w0 : World} (hf : Fx w f es hl a ky) (h : Sx w b T f hl a ky s ord k w0) (hk : k ≤ 4398046511104) (hol : ord.length ≤ 64) (hno : ∀ v, pick (wts s ord) (fun v => ky (s.c v) (gf hl v)) (gf hl) f.n = some v → ord.length < 64) :
    Calls Try.prog 56 #[.pointer (some ⟨b.P, 0, none⟩)] w0 fun en w' => (pick (wts s ord) (fun v => ky (s.c v) (gf hl v)) (gf hl) f.n = none ∧ en = .returned (.tuple #[.int .i64 0, .bool false]) ∧ Below w.heap.size w w') ∨ ∃ v : Nat, pick (wts s ord) (fun v => ky (s.c v) (gf hl v)) (gf hl) f.n = some v ∧ en = .returned (.tuple #[.int .i64 v, .bool true]) ∧ Sx w b T f hl a ky s (ord ++ [v]) k w' := by
  obtain ⟨n, ve, vh, kn, lb⟩ := f
  have HF : Hid _ := hf
  have HX : Hid _ := h
  have HNO : Hid _ := hno
  have hn64 := hf.net.n64
  simp only at hn64
  obtain ⟨P, C, M, L, H⟩ := b
  clear hf h hno
  go_enter Try.func56, Try.ntmps56
  go_wp2_with fail
  go_loopg [5] k (fun gk _ wr => gk ≤ k ∧ Sx w ⟨P, C, M, L, H⟩ T ⟨n, ve, vh, kn, lb⟩ hl a ky s ord gk wr)
  case atStart => exact ⟨Nat.le_refl _, HX.out⟩
  case round =>
    clear HX
    obtain ⟨hgk, hx⟩ := hrel
    obtain ⟨m, vo, qs, vq, r1, r2, r3, r4⟩ := hx.ex
    have ST : Hid _ := r1
    have R2 : Hid _ := r2
    have R3 : Hid _ := r3
    clear hx r1 r2 r3
    obtain ⟨_, _, _, _, p4, _⟩ := ST.out.cells
    simp only at p4
    by_cases h0 : qs.length = 0
    · obtain rfl : qs = [] := List.length_eq_zero_iff.1 h0
      have HN : Hid _ := R3.out.none
      have hown := ST.out.own
      have hcell : wr.cell? ⟨H, 1, none⟩ = some vq := by simp [World.cell?, ST.out.head]
      obtain ⟨av, cv, rfl⟩ : ∃ a c, vq = .slice a 0 c := by
        rcases hown.2 with ⟨rfl, _⟩ | ⟨g, cap, cur, rfl, _⟩
        · exact ⟨_, _, rfl⟩
        · exact ⟨_, _, rfl⟩
      have HCL : Hid _ := hcell
      clear hcell hown
      go_wp2_with fail
      refine (pops_nil H cv av _ HCL.out).mono ?_
      rintro e w6 ⟨rfl, b6⟩
      have B6 : Hid _ := bthen ST.out.below b6
      clear b6
      go_wp2_with fail
      go_ret2
      exact .inl ⟨HN.out, rfl, balloc B6.out _⟩
    · go_wp2_with fail
      refine (pops ST.out (by omega) (by omega)).mono ?_
      rintro e w6 ⟨⟨kk, gg, jj⟩, rs, v6, rfl, st6, pm, mn⟩
      have PM : Hid _ := pm
      have MN : Hid _ := mn
      have S6 : Hid _ := st6
      have hl6 : rs.length + 1 = qs.length := by have := pm.length_eq; simpa using this
      have Q6 : Hid _ := R3.out.perm pm.symm
      obtain ⟨v, k1, k2, k3, k4, k5⟩ := Q6.out.old (kk, gg, jj) (by simp)
      simp only at k1 k2 k3
      subst k2
      have hv64 : v < 64 := by omega
      have hvn : (v : Int) < (n : Int) := by omega
      have XB : Hid (Jw.Box (w6.alloc (.cells #[.int .i64 kk, .int .i64 gg, .int .i64 v] 113)) w6.heap.size (kk, gg, (v : Int))) := heap_alloc_new w6 _
      have S7 : Hid _ := S6.out.kept (balloc (Below.refl _ _) (.cells #[.int .i64 kk, .int .i64 gg, .int .i64 v] 113))
      clear pm mn st6 k3 k4 k5 p4
      go_wp2_with fail
      generalize w6.alloc (.cells #[.int .i64 kk, .int .i64 gg, .int .i64 v] 113) = W7 at *
      obtain ⟨X, hX⟩ : ∃ X, w6.heap.size = X := ⟨_, rfl⟩
      have XT : Hid (T ≤ X ∧ v6.ownBlock ≠ some X ∧ vo.ownBlock ≠ some X) := by
        rw [← hX]
        exact ⟨S6.out.top, fun e => by have := (ownBlock_lt S6.out.own _ e).2; omega, fun e => by have := (S6.out.order.own_lt _ e).2; omega⟩
      rw [hX] at XB ⊢
      clear hX S6
      obtain ⟨_, _, x2, _, _, _⟩ := XB.out.cell
      obtain ⟨_, _, _, _, _, _, _, p7, p8, _⟩ := S7.out.cells
      obtain ⟨l0, lf⟩ := S7.out.look.cell v k1
      simp only at x2 p7 p8 l0
      by_cases hvo : v ∈ ord
      · rw [decide_eq_true hvo] at l0
        have Q8 : Hid _ := Q6.out.skip rfl hvo
        go_quiet (fail)
        have S8 : Hid _ := S7.out.kept (bdrewN (Below.refl _ _) nq)
        go_wp2_with fail
        go_roundg rs.length
        case measure => omega
        case rel => exact ⟨by omega, m, vo, rs, v6, S8.out, R2.out, Q8.out, Nat.le_refl _⟩
      · rw [decide_eq_false hvo] at l0
        obtain ⟨hpk, q8⟩ := Q6.out.take MN.out rfl hvo
        have HPK : Hid _ := hpk
        have Q8 : Hid _ := q8
        clear hpk q8
        go_quiet (fail)
        have hb8 : Below W7.heap.size W7 (W7.drewN nq) := bdrewN (Below.refl _ _) nq
        have S8 : Hid _ := S7.out.kept hb8
        have X8 : Hid (Jw.Box (W7.drewN nq) X (kk, gg, (v : Int))) := XB.out.frame (hb8.block _ XB.out.lt)
        clear x2 p7 p8 l0 lf S7 XB hb8
        generalize W7.drewN nq = W8 at *
        obtain ⟨_, _, x2, _, _, _⟩ := X8.out.cell
        obtain ⟨_, _, _, _, _, _, _, p7, p8, pf⟩ := S8.out.cells
        obtain ⟨l0, lf⟩ := S8.out.look.cell v k1
        simp only at x2 p7 p8 pf l0 lf
        go_wp2_with fail
        go_region
        have S9 : Hid (Sr w ⟨P, C, M, L, H⟩ T ⟨n, ve, vh, kn, lb⟩ s.c m (fun u => decide (u ∈ ord ++ [v])) (ints ord) vo rs v6 (W8.setCell ⟨L, v, none⟩ (.bool true)).drew) := (S8.out.mark v (by simp) (fun j _ hj => by simp [hj])).kept (Below.drew (Below.refl _ _))
        have X9 : Hid (Jw.Box (W8.setCell ⟨L, v, none⟩ (.bool true)).drew X (kk, gg, (v : Int))) := X8.out.frame (by rw [Jw.drew_heap, Below.heap_setCell _ _ _ _ (show X ≠ L by have := XT.out.1; have := S8.out.ok.hi.2.2.2.1; simp only at this; omega)])
        generalize (W8.setCell ⟨L, v, none⟩ (.bool true)).drew = W9 at *
        clear x2 p7 p8 pf l0 lf S8 X8
        obtain ⟨_, _, x2, _, _, _⟩ := X9.out.cell
        obtain ⟨_, _, _, _, _, _, _, _, p8, pf⟩ := S9.out.cells
        simp only at x2 p8 pf
        have top9 := S9.out.top
        have hown : W9.ownsRow T 3 1 vo (ints ord).length ((ints ord).map (fun z => .int .i64 z)) := S9.out.order.own
        obtain ⟨i0, hi0, hz0, hz1, hz2⟩ := info3_parts
        have lP : P < W9.heap.size := heap_lt' S9.out.box
        have hne : vo.ownBlock ≠ some P := fun e => by have := (ownBlock_lt hown _ e).1; have := S9.out.ok.hi.1; simp only at this; omega
        obtain ⟨N, hN⟩ : ∃ N, (ints ord).length = N := ⟨_, rfl⟩
        have HNL : Hid (N ≤ 64) := by rw [← hN, ints_length]; exact hol
        rw [hN] at hown
        have hn63 : N + 1 ≤ maxLen := by unfold maxLen; have := HNL.out; omega
        have hN64 := HNL.out
        have d1 := kept_alloc (x := .cells #[.int .i64 (v : Int)] 3) p8
        have e1 := Jw.keptF_alloc0 #[.int .i64 (v : Int)] 3 pf
        have HLit : Hid ((W9.alloc (.cells #[.int .i64 (v : Int)] 3)).drew.heap[W9.heap.size]? = some (.cells #[.int .i64 (v : Int)] 3)) := heap_alloc_new W9 _
        obtain ⟨R, hR⟩ : ∃ R : List Value, (ints ord).map (fun z => Value.int .i64 z) = R := ⟨_, rfl⟩
        rw [hR] at hown
        have HRL : Hid _ := hR
        have HNN : Hid _ := hN
        clear hR hN
        go_wp2_with fail
        go_region_law
          ((refine step_append_lies _ (by rfl) _ _ _ (by rfl) T 3 i0 _ 1 8 Try.underlying25 hi0 hz0 hz1 hz2 rfl (by omega) vo N R (by rfl) ((hown.alloc _).drew)
              ⟨W9.heap.size, 0, none⟩ 1 1 [.int .i64 (v : Int)] (by rfl) (by rfl) (World.news_of_block (cs := #[.int .i64 (v : Int)]) (t := 3) (fr := (0, 0)) HLit.out) (by simp [Value.oneCell'])
              (by omega) hn63 (by omega) (by simp; omega) (W9.heap.size + 1) (by simp) ?_; intro gq cap w1 hown1 hgrow hat hlt; have q1 : w1.cell? ⟨P, 8, none⟩ = some vo := (by rw [hgrow.cell_far _ (by simp; omega) (Ne.symm hne)]; go_simp); have q2 : w1.frozen? ⟨P, 8, none⟩ = false := (by rw [hgrow.frozen_far _ (by simp; omega) (Ne.symm hne)]; exact e1)))
        all_goals
          have hg9 : W9.grownBy w1 vo.ownBlock := grown_trans (grown_below (Below.drew (balloc (Below.refl _ _) (.cells #[.int .i64 (v : Int)] 3)))) hgrow
          have eR : R ++ [Value.int .i64 (v : Int)] = (ints ord ++ [(v : Int)]).map (fun z => Value.int .i64 z) := by rw [List.map_append, HRL.out]; rfl
          rw [eR] at hown1
          have S10 : Hid _ := S9.out.grew (v : Int) (n := N + 1) (gg := gq) (cap := cap) (by rw [HNN.out]) hg9 hown1 (hat.imp_right (fun h => by omega))
          have X10 : Hid (Jw.Box (w1.setCell ⟨P, 8, none⟩ (.slice (some ⟨gq, 0, none⟩) (N + 1) cap)) X (kk, gg, (v : Int))) := X9.out.frame (by
            rw [Below.heap_setCell _ _ _ _ (show X ≠ P by have := XT.out.1; have := S9.out.ok.hi.1; simp only at this; omega)]
            exact hg9.block X X9.out.lt (Ne.symm XT.out.2.2))
          have HIN : Hid (ints (ord ++ [v]) = ints ord ++ [(v : Int)]) := by unfold Hid; rw [ints_append]; rfl
          clear hg9 eR hown1 hgrow hat hlt q1 q2 x2 p8 pf d1 e1 S9 X9 hown
          generalize w1.setCell ⟨P, 8, none⟩ (.slice (some ⟨gq, 0, none⟩) (N + 1) cap) = WA at *
          obtain ⟨_, _, x2, _, _, _⟩ := X10.out.cell
          simp only at x2
          go_wp2_with fail
          go_ret2
          refine .inr ⟨v, HPK.out, rfl, ⟨m, .slice (some ⟨gq, 0, none⟩) (N + 1) cap, rs, v6, ?_, R2.out, Q8.out, by omega⟩⟩
          rw [HIN.out]
          exact S10.out
end Go.Proofs.Ytefikbjjdldomaa
