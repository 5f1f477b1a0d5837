/-
  Contracts: the document's Order.
-/
import Derived.Test.YtkklgnfimkojlaaKH
import Derived.Test.YtkklgnfimkojlaaKI
namespace Go.Proofs.Ytkklgnfimkojlaa
open Go.RowKit
open Nm Wm Dm Bm Fm Fl Km
attribute [local go_sem ↓] Go.wp_at_zero Go.wp_at_succ

set_option maxRecDepth 100000 in
set_option maxHeartbeats 16000000 in
theorem rorder (N : Nat) (v : Value) (es : List E) (w : World) (hv : SlE w v es) (hb : Rnt N es) :
    Calls Try.prog 19 #[.agg #[.int .i64 N, v]] w fun e w' => (((ord (le1 es) (List.range N)).length < N ∧ e = .returned (.tuple #[.slice none 0 0, .int .i64 6])) ∨ (¬ (ord (le1 es) (List.range N)).length < N ∧ ∃ ov, e = .returned (.tuple #[ov, .int .i64 0]) ∧ Is w' w.heap.size ov (ints (ord (le1 es) (List.range N))))) ∧ Below w.heap.size w w' := by
  obtain ⟨a0, c0, rfl⟩ := hv.val
  have HV : Hid _ := hv
  have HB : Hid _ := hb
  have hn64 := hb.n64
  obtain ⟨TT, hT⟩ : ∃ TT, ord (le1 es) (List.range N) = TT := ⟨_, rfl⟩
  have HT : Hid _ := hT
  rw [hT]
  clear hv hb hT
  go_enter Try.func19, Try.ntmps19
  go_wp2_with fail
  have P0 : Hid _ := box2_new w (N : Int) (.slice a0 es.length c0) 24
  have B0 : Hid (Below w.heap.size w (w.alloc (.cells #[.int .i64 N, .slice a0 es.length c0] 24))) := balloc (Below.refl _ _) _
  generalize w.alloc (.cells #[.int .i64 N, .slice a0 es.length c0] 24) = W0 at *
  go_loopw [9, 4] (fun z u wr => ∃ (k : Nat) (ao : Option Addr) (co : Nat) (l : List Int), z = .int .i64 k ∧ u = .slice ao l.length co ∧ k ≤ N ∧ l = ints (List.range k) ∧ Is wr W0.heap.size (.slice ao l.length co) l ∧ Below W0.heap.size W0 wr) (fun z _ _ => N - (intOf z).toNat)
  case atStart => exact ⟨0, none, 0, [], rfl, rfl, Nat.zero_le _, rfl, Is.nil _ _, Below.refl _ _⟩
  case round =>
    obtain ⟨k, ao, co, l, rfl, rfl, hk, hl, hi, hbr⟩ := hrel
    have LR : Hid _ := hl
    have IR : Hid _ := hi
    have BR : Hid (Below W0.heap.size W0 wr) := hbr
    have hll : l.length ≤ 64 := by rw [hl, ints_length, List.length_range]; omega
    clear hl hi hbr
    by_cases hlt : k < N
    · have hki : (k : Int) < (N : Int) := by omega
      have HN : Hid (ints (List.range (k + 1)) = l ++ [((k : Nat) : Int)]) := by unfold Hid; rw [LR.out, List.range_succ, ints_append]; rfl
      have hown := IR.out.own
      obtain ⟨i0, hi0, hy0, hy1, hy2⟩ := info3_parts
      have HNW : Hid _ := heap_alloc_new wr (.cells #[.int .i64 ((k : Nat) : Int)] 3)
      have hwl := BR.out.size
      go_wp2_with (at_builtin; refine wpList_append_lies _ rfl _ _ _ rfl (W0.heap.size) 3 i0 _ 1 8 Try.underlying25 hi0 hy0 hy1 hy2 rfl (by omega) (.slice ao l.length co) l.length _ rfl (hown.alloc _) ⟨wr.heap.size, 0, none⟩ 1 1 [.int .i64 (((k : Nat) : Int))] rfl rfl (World.news_of_block (cs := #[.int .i64 (((k : Nat) : Int))]) (t := 3) (fr := (0, 0)) HNW.out) (by simp [Value.oneCell']) (by omega) (by unfold maxLen; omega) (by omega) (by simp; omega) (wr.heap.size + 1) (by simp) ?_; intro gg cap' w4 hown4 hgrow hat hlt4; have A4 : Hid (Below W0.heap.size W0 w4) := (by exact (balloc BR.out _).grown hgrow (by simp; omega) (fun k hk => (ownBlock_lt hown k hk).1)); clear hgrow hat)
      go_roundw
      case rel => exact ⟨k + 1, some ⟨gg, 0, none⟩, cap', l ++ [((k : Nat) : Int)], by go_num, by simp, by omega, HN.out.symm, by rw [List.length_append]; exact Is.next rfl rfl hown4, A4.out⟩
      case measure => simp [intOf]; omega
    · obtain rfl : N = k := by omega
      rw [LR.out] at IR ⊢
      have PR : Hid _ := P0.out.below BR.out
      have HA : Hid (O45.Asks wr w.heap.size N (le1 es)) := ⟨fun w' hb a b ha hb2 => ask45 w.heap.size N a b _ es w' (kept hb PR.out.g0) (kept hb PR.out.g1) (((HV.out.below B0.out).below BR.out).below hb) HB.out⟩
      have HO : Hid _ := fun (_ : Unit) => O45.ordered w.heap.size N _ (List.range N) (le1 es) wr IR.out.sl (fun x hx => List.mem_range.1 hx) (by rw [List.length_range]; omega) HA.out
      go_wp2_with fail
      refine (HO.out ()).mono ?_
      rintro e w3 ⟨ov, rfl, i3, b3⟩
      rw [HT.out] at i3
      have I3 : Hid _ := i3
      have B3 : Hid (Below w.heap.size w w3) := bthen (bthen B0.out BR.out) b3
      obtain ⟨p0, p1⟩ := PR.out.below b3
      have HS : Hid (w.heap.size ≤ wr.heap.size) := (bthen B0.out BR.out).size
      clear i3 b3 HO
      obtain ⟨ax, cx, rfl⟩ := owns_own I3.out.own
      rw [ints_length] at I3 ⊢
      by_cases hc : TT.length < N
      · have hci : (TT.length : Int) < (N : Int) := by omega
        go_wp2_with fail
        go_ret2
        exact ⟨.inl ⟨hc, rfl⟩, B3.out⟩
      · have hci : ¬ (TT.length : Int) < (N : Int) := by omega
        go_wp2_with fail
        go_ret2
        exact ⟨.inr ⟨hc, _, rfl, I3.out.mono HS.out⟩, B3.out⟩
end Go.Proofs.Ytkklgnfimkojlaa
