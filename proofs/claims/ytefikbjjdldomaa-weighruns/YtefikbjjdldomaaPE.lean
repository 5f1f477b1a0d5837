/-
  Contract: back.
-/
import Derived.Test.YtefikbjjdldomaaPA
import Derived.Test.YtefikbjjdldomaaFC
import Derived.Test.YtefikbjjdldomaaYR
namespace Go.Proofs.Ytefikbjjdldomaa
open Go.RowKit
open _root_.Go.Proofs.Ytefikbjjdldomaa.Nm Wm Dm
open Jp (T3)
attribute [local go_sem ↓] Go.wp_at_zero Go.wp_at_succ

/-- Where a way back goes on; -1 behind its end. -/
def nxq (q : List Nat) (i : Nat) : Int := if i < q.length then ((q.getD i 0 : Nat) : Int) else -1
/-- A way back, as the came-row tells it. -/
structure Bq (n : Nat) (m : Nat → Int) (q : List Nat) : Prop where
  pos : 0 < q.length
  len : q.length ≤ 64
  small : ∀ j, j < q.length → q.getD j 0 < n
  step : ∀ j, j < q.length → m (q.getD j 0) = nxq q (j + 1)
theorem ints_take {q : List Nat} {i : Nat} (h : i < q.length) : ints (q.take (i + 1)) = ints (q.take i) ++ [((q.getD i 0 : Nat) : Int)] := by
  rw [List.take_succ_eq_append_getElem h, ints_append]
  have e : q.getD i 0 = q[i] := by simp [List.getD_eq_getElem?_getD, h]
  rw [e]; rfl
set_option maxRecDepth 100000 in
set_option maxHeartbeats 16000000 in
theorem sback_any {w : World} {b : Blk} {T : Nat} {f : Fix} {c m : Nat → Int} {lk : Nat → Bool} {o : List Int} {vo : Value} {qs : List T3} {vq : Value} {w0 : World} (h : Sr w b T f c m lk o vo qs vq w0) (q : List Nat) (hq : Bq f.n m q) :
    Calls Try.prog 57 #[.pointer (some ⟨b.P, 0, none⟩), .int .i64 (nxq q 0)] w0 fun e w' => ∃ v, e = .returned v ∧ Is w' w0.heap.size v (ints q.reverse) ∧ Below w0.heap.size w0 w' := by
  obtain ⟨P, C, M, L, H⟩ := b
  obtain ⟨n, ve, vh, kn, lb⟩ := f
  have ST : Hid _ := h
  have HQ : Hid _ := hq
  have hlen := hq.len
  clear h hq
  go_enter Try.func57, Try.ntmps57
  go_wp2_with fail
  go_loopw [1, 5] (fun x u wr => ∃ i : Nat, i ≤ q.length ∧ x = .int .i64 (nxq q i) ∧ Is wr w0.heap.size u (ints (q.take i)) ∧ Below w0.heap.size w0 wr) (fun _ u _ => 64 - (match u with | .slice _ k _ => k | _ => 0))
  case atStart => exact ⟨0, Nat.zero_le _, rfl, Is.nil _ _, Below.refl _ _⟩
  case round =>
    obtain ⟨i, hi, rfl, hu, hb⟩ := hrel
    have HU : Hid _ := hu
    have HB : Hid (Below w0.heap.size w0 wr) := hb
    have hil : (ints (q.take i)).length = i := by rw [ints_length, List.length_take]; omega
    obtain ⟨au, cu, hue⟩ := hu.sl.val
    rw [hil] at hue
    subst hue
    clear hu hb
    by_cases hlt : i < q.length
    · have hs := HQ.out.small i hlt
      have HST : Hid _ := HQ.out.step i hlt
      have HTK : Hid _ := ints_take hlt
      obtain ⟨_, _, _, _, _, _, p6, _⟩ := (ST.out.kept HB.out).cells
      obtain ⟨m0, _⟩ := (ST.out.kept HB.out).came.cell _ hs
      simp only at p6 m0 hs
      rw [HST.out] at m0
      have hnx : nxq q i = ((q.getD i 0 : Nat) : Int) := if_pos hlt
      obtain ⟨x, hx⟩ : ∃ x, q.getD i 0 = x := ⟨_, rfl⟩
      rw [hx] at m0 hs hnx HTK HST
      rw [hnx]
      have hxn : (x : Int) < (n : Int) := by omega
      have hne : ((x : Int) != -1) = true := by simp
      have hown := HU.out.own
      rw [hil] at hown
      obtain ⟨i0, hi0, hz0, hz1, hz2⟩ := info3_parts
      have HNW : Hid ((wr.alloc (.cells #[.int .i64 (x : Int)] 3)).heap[wr.heap.size]? = some (.cells #[.int .i64 (x : Int)] 3)) := heap_alloc_new wr _
      have hwz := HB.out.size
      obtain ⟨R, hR⟩ : ∃ R : List Value, (ints (q.take i)).map (fun z => Value.int .i64 z) = R := ⟨_, rfl⟩
      rw [hR] at hown
      have HRL : Hid _ := hR
      have HIL : Hid _ := hil
      clear hnx hx hR hil
      obtain ⟨y, hy⟩ : ∃ y, nxq q (i + 1) = y := ⟨_, rfl⟩
      rw [hy] at m0 HST
      have HYE : Hid _ := hy
      clear hy
      go_wp2_with (first
        | (at_builtin; refine wpList_append_lies _ rfl _ _ _ rfl w0.heap.size 3 i0 _ 1 8 Try.underlying25 hi0 hz0 hz1 hz2 rfl (by omega) (.slice au i cu) i R rfl (hown.alloc _) ⟨wr.heap.size, 0, none⟩ 1 1 [.int .i64 (x : Int)] rfl rfl (World.news_of_block (cs := #[.int .i64 (x : Int)]) (t := 3) (fr := (0, 0)) HNW.out) (by simp [Value.oneCell']) (by omega) (by unfold maxLen; omega) (by omega) (by simp; omega) (wr.heap.size + 1) (by simp) ?_; intro gg cap' w3 hown3 hgrow hat hlt3; have B3 : Hid (Below w0.heap.size w0 w3) := (by exact (balloc HB.out _).grown hgrow (by simp; omega) (fun k hk => (ownBlock_lt hown k hk).1)); clear hgrow hat; obtain ⟨_, _, _, _, _, _, s6, _⟩ := (ST.out.kept B3.out).cells; obtain ⟨sm, _⟩ := (ST.out.kept B3.out).came.cell x hs; simp only at s6 sm; rw [HST.out] at sm)
        | go_in)
      go_roundw
      case rel =>
        refine ⟨i + 1, by omega, by rw [HYE.out], ?_, B3.out⟩
        rw [HTK.out]
        refine Is.next (l := ints (q.take i)) rfl HIL.out.symm ?_
        rw [HRL.out]
        exact hown3
      case measure => simp; omega
    · have hie : i = q.length := by omega
      subst hie
      have hnx : nxq q q.length = -1 := if_neg (by omega)
      rw [hnx]
      have HU2 : Hid (Is wr w0.heap.size (.slice au q.length cu) (ints q)) := by have := HU.out; rw [List.take_length] at this; exact this
      have hpos := HQ.out.pos
      have HRW : Hid (∃ g, au = some ⟨g, 0, none⟩ ∧ Rw wr g cu (ints q) ∧ w0.heap.size ≤ g) := by
        rcases HU2.out.rw with ⟨h1, h2⟩ | ⟨g', cap', h1, h2, h3⟩
        · have h3 : q.length = 0 := by rw [← ints_length q, h2]; rfl
          omega
        · simp only [Value.slice.injEq] at h1
          obtain ⟨rfl, -, rfl⟩ := h1
          exact ⟨g', rfl, h3, h2⟩
      obtain ⟨g, rfl, hrw, hg⟩ := HRW.out
      have hr := reverse_any g cu (ints q) wr hrw (by have := ints_length q; omega)
      rw [ints_length] at hr
      have HR : Hid _ := fun (_ : Unit) => hr
      have HG : Hid _ := hg
      clear hr hrw hg HRW hnx
      go_wp2_with fail
      refine (HR.out ()).mono ?_
      rintro e w2 ⟨rfl, r2, gr2⟩
      have R2 : Hid _ := r2
      have B2 : Hid (Below w0.heap.size w0 w2) := below_grown HB.out gr2 HG.out HB.out.size
      clear r2 gr2
      go_wp2_with fail
      go_ret
      refine ⟨_, rfl, ?_, B2.out⟩
      have := R2.out.is (base := w0.heap.size) HG.out
      have e1 : ints q.reverse = (ints q).reverse := by unfold ints; rw [List.map_reverse]
      rw [List.length_reverse, ints_length] at this
      rw [e1]
      exact this
end Go.Proofs.Ytefikbjjdldomaa
