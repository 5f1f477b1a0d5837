/-
  Contract: the document's own sorting (by putting in place).
-/
import Derived.Test.YtdgihpegdcoilaaInsE
import Derived.Test.YtdgihpegdcoilaaHeapG
import Derived.BigQuiet
namespace Go.Proofs.Ytdgihpegdcoilaa.So
open Go.RowKit
open Hq

theorem srt_succ (l : List (Int × Int)) (k : Nat) (h : k < l.length) : srt (l.take (k + 1)) = ins (at' l k) (srt (l.take k)) := by
  rw [take_succ_at l k h]
  unfold srt
  rw [List.foldl_append]
  rfl

theorem owns_val {w : World} {base n : Nat} {v : Value} {xs : List Value} (h : w.ownsRow base 68 2 v n xs) : ∃ a c, v = .slice a n c := by
  rcases h.2 with ⟨rfl, rfl⟩ | ⟨g, cap, cur, rfl, _⟩
  · exact ⟨_, _, rfl⟩
  · exact ⟨_, _, rfl⟩
theorem owns_some {w : World} {base n : Nat} {v : Value} {xs : List Value} (h : w.ownsRow base 68 2 v n xs) (hn : 0 < n) : ∃ g c, v = .slice (some ⟨g, 0, none⟩) n c := by
  rcases h.2 with ⟨rfl, rfl⟩ | ⟨g, cap, cur, rfl, _⟩
  · omega
  · exact ⟨_, _, rfl⟩

theorem sorted_ins (base k : Nat) (a : Option Addr) (c : Nat) (ls : List (Int × Int)) (x y : Int) (w W : World) (hk : k < ls.length) (hlen : ls.length ≤ 8796093022208) (hx : (at' ls k).1 = x) (hy : (at' ls k).2 = y)
    (ho : W.ownsRow base 68 2 (.slice a k c) k (flat (srt (ls.take k)))) (hbase : base ≤ W.heap.size) (hb : Below base w W) (i VB : Nat) (W' : World) (hW : ∃ q, W' = W.drewN q) (hVB : VB = W.heap.size) (hi : i ≤ k) (h1 : ∀ j, j < i → ltb (at' ls k) (at' (srt (ls.take k)) j) = false) (h2 : i < k → ltb (at' ls k) (at' (srt (ls.take k)) i) = true) :
    Calls Try.prog 54 #[.slice a k c, .int .i64 i, .slice (some ⟨VB, 0, none⟩) 1 1] (W'.alloc (.cells #[.int .i64 x, .int .i64 y] 68)) fun e w' => ∃ v', e = .returned v' ∧ w'.ownsRow base 68 2 v' (k + 1) (flat (srt (ls.take (k + 1)))) ∧ Below base w w' := by
  obtain ⟨q, rfl⟩ := hW
  subst hVB
  have hl : (srt (ls.take k)).length = k := by rw [srt_length, List.length_take]; omega
  have hins := ins_at (at' ls k) (srt (ls.take k)) i (by omega) h1 (by rw [hl]; exact h2)
  have he : at' ls k = (x, y) := Prod.ext hx hy
  have ho' : (W.drewN q).ownsRow base 68 2 (.slice a k c) k (flat (srt (ls.take k))) := ho
  have ho2 := World.ownsRow.alloc ho' (.cells #[.int .i64 x, .int .i64 y] 68)
  have hbox : Box ((W.drewN q).alloc (.cells #[.int .i64 x, .int .i64 y] 68)) W.heap.size (x, y) := heap_alloc_new (W.drewN q) _
  have hbl : Below base w ((W.drewN q).alloc (.cells #[.int .i64 x, .int .i64 y] 68)) := (hb.trans (show Below base W (W.drewN q) from ⟨rfl, rfl, rfl, Nat.le_refl _, fun _ _ => rfl⟩)).alloc hbase _
  have := insert_any base i (.slice a k c) (srt (ls.take k)) W.heap.size x y _ (by rw [hl]; exact ho2) (by simp; omega) hbox (by omega) (fun e => by
    have := (ownBlock_lt ho _ e).2
    omega) (by omega)
  refine this.mono ?_
  rintro e w' ⟨v', rfl, h3, h4⟩
  refine ⟨v', rfl, ?_, hbl.trans h4⟩
  rw [srt_succ ls k hk, hins, he]
  rw [hl] at h3
  exact h3

set_option maxRecDepth 100000 in
set_option maxHeartbeats 8000000 in
theorem sorted_any (v : Value) (ls : List (Int × Int)) (w : World) (hv : SlR w v ls) (hlen : ls.length ≤ 8796093022208) :
    Calls Try.prog 40 #[v] w fun e w' => ∃ u, e = .returned u ∧ w'.ownsRow w.heap.size 68 2 u ls.length (flat (srt ls)) ∧ Below w.heap.size w w' := by
  obtain ⟨a0, c0, rfl⟩ := hv.val
  have HV : Hid _ := hv
  clear hv
  go_enter Try.func40, Try.ntmps40
  go_wp2_with fail
  go_loopw [9, 3] (fun x out wr => ∃ k : Nat, x = .int .i64 k ∧ k ≤ ls.length ∧ wr.ownsRow w.heap.size 68 2 out k (flat (srt (ls.take k))) ∧ Below w.heap.size w wr) (fun x _ _ => ls.length - (intOf x).toNat)
  case atStart => exact ⟨0, rfl, Nat.zero_le _, World.ownsRow_nil _ _ _ _, Below.refl _ _⟩
  case round =>
    obtain ⟨k, rfl, hk, ho, hb⟩ := hrel
    obtain ⟨a, c, rfl⟩ := owns_val ho
    by_cases hlt : k < ls.length
    · have hki : (k : Int) < (ls.length : Int) := by omega
      obtain ⟨b, off, cap, hveq, hc⟩ := SlR.some' (show SlR w _ ls from HV.out) (by omega)
      simp only [Value.slice.injEq] at hveq
      obtain ⟨rfl, -, rfl⟩ := hveq
      obtain ⟨c0, c1⟩ := hc k hlt
      clear hc
      have d0 := kept hb c0
      have d1 := kept hb c1
      obtain ⟨x, hx⟩ : ∃ x, (at' ls k).1 = x := ⟨_, rfl⟩
      obtain ⟨y, hy⟩ : ∃ x, (at' ls k).2 = x := ⟨_, rfl⟩
      rw [hx] at d0
      rw [hy] at d1
      have HX : Hid _ := hx
      have HY : Hid _ := hy
      have HO : Hid _ := ho
      have HB : Hid _ := hb
      clear hx hy c0 c1 ho hb
      go_wp2_with fail
      obtain ⟨W, hW⟩ : ∃ W, W = wr.alloc (.cells #[.int .i64 x, .int .i64 y] 68) := ⟨_, rfl⟩
      obtain ⟨X, hXs⟩ : ∃ X, X = wr.heap.size := ⟨_, rfl⟩
      rw [← hW, ← hXs]
      have hbox : Box W X (x, y) := by rw [hW, hXs]; exact heap_alloc_new wr _
      have hWo : W.ownsRow w.heap.size 68 2 (.slice a k c) k (flat (srt (ls.take k))) := by rw [hW]; exact World.ownsRow.alloc HO.out _
      have hWb : Below w.heap.size w W := by rw [hW]; exact HB.out.alloc HB.out.size _
      have HINS : Hid _ := sorted_ins w.heap.size k a c ls x y w W hlt hlen HX.out HY.out hWo hWb.size hWb
      obtain ⟨e0, e1, _, _⟩ := hbox.cell
      simp only at e0 e1
      clear hW hXs d0 d1 HO HB hWb hbox
      have HWO : Hid _ := hWo
      clear hWo
      go_loopw [6] (fun z w2 => ∃ i : Nat, z = .int .i64 i ∧ i ≤ k ∧ (∀ j, j < i → ltb (at' ls k) (at' (srt (ls.take k)) j) = false) ∧ ∃ q, w2 = W.drewN q) (fun z _ => k - (intOf z).toNat)
      case atStart => exact ⟨0, rfl, Nat.zero_le _, fun j hj => absurd hj (by omega), 0, rfl⟩
      case round =>
        obtain ⟨i, rfl, hik, hj, q, rfl⟩ := hrel
        have HJ : Hid _ := hj
        clear hj
        by_cases hlt2 : i < k
        · have hii : (i : Int) < (k : Int) := by omega
          obtain ⟨g, c', heq⟩ := owns_some HWO.out (by omega)
          simp only [Value.slice.injEq, true_and] at heq
          obtain ⟨rfl, rfl⟩ := heq
          have hl : (srt (ls.take k)).length = k := by rw [srt_length, List.length_take]; omega
          have hrow := (Row.of_owns hl.symm HWO.out).1
          obtain ⟨f0, f1, _, _⟩ := hrow.cell i (by omega)
          obtain ⟨s, hs⟩ : ∃ v, (at' (srt (ls.take k)) i).1 = v := ⟨_, rfl⟩
          obtain ⟨t, ht⟩ : ∃ v, (at' (srt (ls.take k)) i).2 = v := ⟨_, rfl⟩
          rw [hs] at f0
          rw [ht] at f1
          have HS : Hid _ := hs
          have HT : Hid _ := ht
          clear hs ht hrow hl
          have hyes : Hid ((s < x ∨ (s = x ∧ t ≤ y)) → ltb (at' ls k) (at' (srt (ls.take k)) i) = false) := fun h => by
            unfold ltb
            rw [HX.out, HY.out, HS.out, HT.out]
            split
            · simp; omega
            · simp; omega
          have hno : Hid (¬ (s < x ∨ (s = x ∧ t ≤ y)) → ltb (at' ls k) (at' (srt (ls.take k)) i) = true) := fun h => by
            unfold ltb
            rw [HX.out, HY.out, HS.out, HT.out]
            split
            · simp; omega
            · simp; omega
          by_cases h1 : s < x
          · go_wp2_with fail
            go_quiet (fail)
            go_wp2
            go_roundw
            case rel =>
              refine ⟨i + 1, by go_num, by omega, fun j hj => ?_, q + nq, rfl⟩
              rcases (show j < i ∨ j = i by omega) with h | rfl
              · exact HJ.out j h
              · exact hyes.out (.inl h1)
            case measure => simp [intOf]; omega
          · have h1' : decide (s < x) = false := decide_eq_false h1
            by_cases h2 : s = x
            · subst h2
              by_cases h3 : t ≤ y
              · go_wp2_with fail
                go_quiet (fail)
                go_wp2
                go_roundw
                case rel =>
                  refine ⟨i + 1, by go_num, by omega, fun j hj => ?_, q + nq, rfl⟩
                  rcases (show j < i ∨ j = i by omega) with h | rfl
                  · exact HJ.out j h
                  · exact hyes.out (.inr ⟨trivial, h3⟩)
                case measure => simp [intOf]; omega
              · have h3' : decide (t ≤ y) = false := decide_eq_false h3
                go_wp2_with fail
                go_quiet (fail)
                go_wp2_with fail
                refine (HINS.out i _ _ ⟨_, rfl⟩ rfl (by omega) HJ.out (fun _ => hno.out (by omega))).mono ?_
                rintro e w3 ⟨v', rfl, hown3, hb3⟩
                go_wp2
                go_roundw
                case rel => exact ⟨k + 1, by go_num, by omega, hown3, hb3⟩
                case measure => simp [intOf]; omega
            · have h2' : (s == x) = false := beq_eq_false_iff_ne.2 h2
              go_wp2_with fail
              go_quiet (fail)
              go_wp2_with fail
              refine (HINS.out i _ _ ⟨_, rfl⟩ rfl (by omega) HJ.out (fun _ => hno.out (by omega))).mono ?_
              rintro e w3 ⟨v', rfl, hown3, hb3⟩
              go_wp2
              go_roundw
              case rel => exact ⟨k + 1, by go_num, by omega, hown3, hb3⟩
              case measure => simp [intOf]; omega
        · have hke : i = k := by omega
          subst hke
          go_wp2_with fail
          go_quiet (fail)
          go_wp2_with fail
          refine (HINS.out i _ _ ⟨_, rfl⟩ rfl (by omega) HJ.out (fun h => absurd h (by omega))).mono ?_
          rintro e w3 ⟨v', rfl, hown3, hb3⟩
          go_wp2
          go_roundw
          case rel => exact ⟨i + 1, by go_num, by omega, hown3, hb3⟩
          case measure => simp [intOf]; omega
    · have hke : k = ls.length := by omega
      subst hke
      rw [List.take_length] at ho
      go_wp2_with fail
      go_ret
      exact ⟨_, rfl, ho, hb⟩

end Go.Proofs.Ytdgihpegdcoilaa.So
