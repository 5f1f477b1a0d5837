/-
  Contracts: the numbers of all edges; what serves the laws on trees.
-/
import Derived.Test.YtdgihpegdcoilaaKU
import Derived.Test.YtdgihpegdcoilaaKJ
import Derived.Test.YtdgihpegdcoilaaTW
import Derived.Test.YtdgihpegdcoilaaUE
namespace Go.Proofs.Ytdgihpegdcoilaa
open Go.RowKit
open Nm Kk
attribute [local go_sem ↓] Go.wp_at_zero Go.wp_at_succ

set_option maxRecDepth 100000 in
set_option maxHeartbeats 8000000 in
theorem all_any (n : Int) (v : Value) (es : List E) (w : World) (hv : SlE w v es) (hl : es.length ≤ 600) :
    Calls Try.prog 26 #[.agg #[.int .i64 n, v]] w fun e w' => ∃ u, e = .returned u ∧ Is w' w.heap.size u (ints (List.range es.length)) ∧ Below w.heap.size w w' := by
  obtain ⟨a0, c0, rfl⟩ := hv.val
  have HV : Hid _ := hv
  clear hv
  go_enter Try.func26, Try.ntmps26
  go_wp2_with fail
  have B0 : Hid (Below w.heap.size w (w.alloc (.cells #[.int .i64 n, .slice a0 es.length c0] 35))) := balloc (Below.refl _ _) _
  generalize w.alloc (.cells #[.int .i64 n, .slice a0 es.length c0] 35) = W0 at *
  obtain ⟨i0, hi0, hz0, hz1, hz2⟩ := info3_parts
  go_loopw [8, 3] (fun z out wr => ∃ k : Nat, z = .int .i64 k ∧ k ≤ es.length ∧ Is wr W0.heap.size out (ints (List.range k)) ∧ Below W0.heap.size W0 wr) (fun z _ _ => es.length - (intOf z).toNat)
  case atStart => exact ⟨0, rfl, Nat.zero_le _, Is.nil _ _, Below.refl _ _⟩
  case round =>
    obtain ⟨k, rfl, hk, ho, hb⟩ := hrel
    obtain ⟨ao, co, rfl⟩ := ho.sl.val
    have HO : Hid _ := ho
    have HB : Hid (Below W0.heap.size W0 wr) := hb
    clear ho hb
    rw [ints_length, List.length_range] at HO ⊢
    by_cases hlt : k < es.length
    · have hki : (k : Int) < (es.length : Int) := by omega
      have hown := HO.out.own
      rw [ints_length, List.length_range] at hown
      have hwz := HB.out.size
      have HR : Hid _ := List.range_succ (n := k)
      have HNW : Hid ((wr.alloc (.cells #[.int .i64 (k : Int)] 3)).heap[wr.heap.size]? = some (.cells #[.int .i64 (k : Int)] 3)) := new_at _ _ rfl
      go_wp2_with (at_builtin; refine wpList_append_lies _ rfl _ _ _ rfl W0.heap.size 3 i0 _ 1 8 Try.underlying23 hi0 hz0 hz1 hz2 rfl (by omega) (.slice ao k co) k _ rfl (hown.alloc _) ⟨wr.heap.size, 0, none⟩ 1 1 [.int .i64 (k : Int)] rfl rfl (World.news_of_block (cs := #[.int .i64 (k : Int)]) (t := 3) (fr := (0, 0)) HNW.out) (by simp [Value.oneCell']) (by omega) (by unfold maxLen; omega) (by omega) (by simp; omega) (wr.heap.size + 1) (by simp) ?_; intro gg cap' w4 hown4 hgrow hat hlt4; have B4 : Hid (Below W0.heap.size W0 w4) := (by exact (balloc HB.out _).grown hgrow (by simp; omega) (fun k hk => (ownBlock_lt hown k hk).1)))
      go_roundw
      case rel => exact ⟨k + 1, by go_num, by omega, by rw [HR.out, ints_snoc]; exact Is.next rfl (by rw [ints_length, List.length_range]) hown4, B4.out⟩
      case measure => simp [intOf]; omega
    · obtain rfl : k = es.length := by omega
      go_wp2_with fail
      go_ret
      exact ⟨_, rfl, HO.out.mono B0.out.size, bthen B0.out HB.out⟩
theorem two_gn : Gn 2 [(0, 1, 5)] := ⟨by omega, by omega, by simp, fun e he => by simp at he; subst he; simp⟩
theorem two_tree : tree [(0, 1, 5)] = [0] := by decide
end Go.Proofs.Ytdgihpegdcoilaa
