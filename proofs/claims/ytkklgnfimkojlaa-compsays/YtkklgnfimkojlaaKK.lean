/-
  Contracts: the document's KnotOrder.
-/
import Derived.Test.YtkklgnfimkojlaaKG
import Derived.Test.YtkklgnfimkojlaaKJ
namespace Go.Proofs.Ytkklgnfimkojlaa
open Go.RowKit
open Nm Wm Dm Bm Fm Fl Km
attribute [local go_sem ↓] Go.wp_at_zero Go.wp_at_succ

theorem lst_ints (N : Nat) (K : Nat → Nat) : lst N (fun x => ((K x : Nat) : Int)) = ints ((List.range N).map K) := by
  unfold lst ints; rw [List.map_map]; rfl
set_option maxRecDepth 100000 in
set_option maxHeartbeats 16000000 in
theorem rkord (N : Nat) (v : Value) (es : List E) (w : World) (hv : SlE w v es) (hb : Rnt N es) :
    Calls Try.prog 16 #[.agg #[.int .i64 N, v]] w fun e w' => ∃ ov, e = .returned ov ∧ Is w' w.heap.size ov (ints (ord (lk (kn (fwb (fun _ => true) es N)) es) (kl (kn (fwb (fun _ => true) es N)) N))) ∧ Below w.heap.size w w' := by
  obtain ⟨a0, c0, rfl⟩ := hv.val
  have HV : Hid _ := hv
  have HB : Hid _ := hb
  have hn64 := hb.n64
  have HLT : Hid (∀ x, x < N → kn (fwb (fun _ => true) es N) x < N) := fun x hx => kn_lt _ hx
  obtain ⟨K, hK⟩ : ∃ K, kn (fwb (fun _ => true) es N) = K := ⟨_, rfl⟩
  have HKE : Hid _ := hK
  rw [hK] at HLT ⊢
  obtain ⟨TT, hT⟩ : ∃ TT, ord (lk K es) (kl K N) = TT := ⟨_, rfl⟩
  have HT : Hid _ := hT
  rw [hT]
  clear hv hb hK hT
  go_enter Try.func16, Try.ntmps16
  go_wp2_with fail
  have P0 : Hid _ := box2_new w (N : Int) (.slice a0 es.length c0) 24
  have B0 : Hid (Below w.heap.size w (w.alloc (.cells #[.int .i64 N, .slice a0 es.length c0] 24))) := balloc (Below.refl _ _) _
  generalize w.alloc (.cells #[.int .i64 N, .slice a0 es.length c0] 24) = W0 at *
  refine (rknots N _ es W0 (HV.out.below B0.out) HB.out).mono ?_
  rintro e w1 ⟨fv, rfl, i1, b1⟩
  rw [HKE.out] at i1
  have F1 : Hid _ := i1
  have P1 : Hid _ := P0.out.below b1
  have B1 : Hid (Below w.heap.size w w1) := bthen B0.out b1
  clear i1 b1 P0 B0
  obtain ⟨af, cf, rfl⟩ := owns_own F1.out.own
  rw [lst_length] at F1 ⊢
  have F2 : Hid _ := F1.out.below (balloc (Below.refl _ _) (.cells #[.slice af N cf] 25))
  have P2 : Hid _ := P1.out.below (balloc (Below.refl _ _) (.cells #[.slice af N cf] 25))
  have O2 : Hid _ := cell_new w1 #[.slice af N cf] 25 0 _ rfl
  have B2 : Hid (Below w.heap.size w (w1.alloc (.cells #[.slice af N cf] 25))) := balloc B1.out _
  clear P1 B1 F1
  go_wp2_with fail
  generalize w1.alloc (.cells #[.slice af N cf] 25) = W2 at *
  generalize w1.heap.size = OB at *
  go_loopw [11, 4] (fun z u wr => ∃ (k : Nat) (ao : Option Addr) (co : Nat) (l : List Int), z = .int .i64 k ∧ u = .slice ao l.length co ∧ k ≤ N ∧ l = ints (kl K k) ∧ Is wr W2.heap.size (.slice ao l.length co) l ∧ Below W2.heap.size W2 wr) (fun z _ _ => N - (intOf z).toNat)
  case atStart => exact ⟨0, none, 0, [], rfl, rfl, Nat.zero_le _, rfl, Is.nil _ _, Below.refl _ _⟩
  case round =>
    obtain ⟨k, ao, co, l, rfl, rfl, hk, hl, hi, hbr⟩ := hrel
    have LR : Hid _ := hl
    have IR : Hid _ := hi
    have BR : Hid (Below W2.heap.size W2 wr) := hbr
    have hll : l.length ≤ 64 := by rw [hl, ints_length]; have := kl_len K k; omega
    clear hl hi hbr
    by_cases hlt : k < N
    · have hki : (k : Int) < (N : Int) := by omega
      obtain ⟨bf, off, cap, hveq, hc, hle⟩ := F2.out.sl.some2 (by rw [lst_length]; omega)
      rw [lst_length] at hveq hc
      simp only [Value.slice.injEq] at hveq
      obtain ⟨rfl, -, rfl⟩ := hveq
      have d0 := kept BR.out (hc k hlt)
      rw [lst_at hlt] at d0
      clear hc hle
      by_cases h1 : k = K k
      · have HN : Hid (ints (kl K (k + 1)) = l ++ [((k : Nat) : Int)]) := by unfold Hid; rw [LR.out, kl_next, if_pos h1, ints_append]; rfl
        have t1 : ((k : Int) == ((K k : Nat) : Int)) = true := by rw [← h1]; simp
        have H1 : Hid _ := h1
        clear h1
        have hown := IR.out.own
        obtain ⟨i0, hi0, hy0, hy1, hy2⟩ := info3_parts
        have HNW : Hid _ := heap_alloc_new wr (.cells #[.int .i64 ((k : Nat) : Int)] 3)
        have hwl := BR.out.size
        go_wp2_with (at_builtin; refine wpList_append_lies _ rfl _ _ _ rfl (W2.heap.size) 3 i0 _ 1 8 Try.underlying25 hi0 hy0 hy1 hy2 rfl (by omega) (.slice ao l.length co) l.length _ rfl (hown.alloc _) ⟨wr.heap.size, 0, none⟩ 1 1 [.int .i64 (((k : Nat) : Int))] rfl rfl (World.news_of_block (cs := #[.int .i64 (((k : Nat) : Int))]) (t := 3) (fr := (0, 0)) HNW.out) (by simp [Value.oneCell']) (by omega) (by unfold maxLen; omega) (by omega) (by simp; omega) (wr.heap.size + 1) (by simp) ?_; intro gg cap' w4 hown4 hgrow hat hlt4; have A4 : Hid (Below W2.heap.size W2 w4) := (by exact (balloc BR.out _).grown hgrow (by simp; omega) (fun k hk => (ownBlock_lt hown k hk).1)); clear hgrow hat)
        go_roundw
        case rel => exact ⟨k + 1, some ⟨gg, 0, none⟩, cap', l ++ [((k : Nat) : Int)], by go_num, by simp, by omega, HN.out.symm, by rw [List.length_append]; exact Is.next rfl rfl hown4, A4.out⟩
        case measure => simp [intOf]; omega
      · have HN : Hid (ints (kl K (k + 1)) = l) := by unfold Hid; rw [LR.out, kl_next, if_neg h1, List.append_nil]
        have t1 : ((k : Int) == ((K k : Nat) : Int)) = false := by simp; omega
        have H1 : Hid _ := h1
        clear h1
        go_wp2_with fail
        go_roundw
        case rel => exact ⟨k + 1, ao, co, l, by go_num, rfl, by omega, HN.out.symm, IR.out, BR.out⟩
        case measure => simp [intOf]; omega
    · obtain rfl : N = k := by omega
      rw [LR.out] at IR ⊢
      have LG : Hid (Lg wr w.heap.size OB N (.slice a0 es.length c0) (.slice af N cf) K es) := ⟨(P2.out.below BR.out).g1, kept BR.out O2.out, (HV.out.below B2.out).below BR.out, F2.out.sl.below BR.out⟩
      have HA : Hid (O42.Asks wr w.heap.size OB N (lk K es)) := ⟨fun w' hb a b ha hb2 => ask42 w.heap.size OB N a b _ _ K es w' (LG.out.below hb) HB.out⟩
      have HO : Hid _ := fun (_ : Unit) => O42.ordered w.heap.size OB N _ (kl K N) (lk K es) wr IR.out.sl (fun x hx => (kl_mem.1 hx).1) (by have := kl_len K N; omega) HA.out
      have HS : Hid (w.heap.size ≤ wr.heap.size) := (bthen B2.out BR.out).size
      go_wp2_with fail
      refine (HO.out ()).mono ?_
      rintro e w3 ⟨ov, rfl, i3, b3⟩
      rw [HT.out] at i3
      have I3 : Hid _ := i3
      have B3 : Hid (Below w.heap.size w w3) := bthen (bthen B2.out BR.out) b3
      clear i3 b3 HO
      obtain ⟨ax, cx, rfl⟩ := owns_own I3.out.own
      go_wp2_with fail
      go_ret
      exact ⟨_, rfl, I3.out.mono HS.out, B3.out⟩
end Go.Proofs.Ytkklgnfimkojlaa
