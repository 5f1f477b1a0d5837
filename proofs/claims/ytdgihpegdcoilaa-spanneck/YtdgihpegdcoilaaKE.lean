/-
  Contracts: slices.Grow of nothing, slices.Concat of two lists of numbers.
-/
import Derived.Test.YtdgihpegdcoilaaCB
import Derived.Lib.AppendZerosOnto
namespace Go.Proofs.Ytdgihpegdcoilaa
open Go.RowKit
open Nm Wm Cm
attribute [local go_sem ↓] Go.wp_at_zero Go.wp_at_succ

set_option maxRecDepth 100000 in
set_option maxHeartbeats 4000000 in
theorem grow_some (n : Nat) (w : World) (h0 : 0 < n) (hn : n ≤ 35184372087808) : Calls Try.prog 45 #[.slice none 0 0, .int .i64 n] w fun e w' => ∃ cap, e = .returned (.slice (some ⟨w.heap.size, 0, none⟩) 0 cap) ∧ n ≤ cap ∧ w'.ownsRow w.heap.size 3 1 (.slice (some ⟨w.heap.size, 0, none⟩) 0 cap) 0 [] ∧ Below w.heap.size w w' := by
  obtain ⟨i0, hi0, hz0, hz1, hz2⟩ := info3_parts
  have hrun := fun ty => Lib.run_append_grow_zeros (P := Try.prog) w 23 3 ty 3 i0 _ .i64 .i64 Try.underlying23 Try.underlying3 hi0 hz0 none 0 0 [] (run_firstCells_none _ _ _ _ _) n h0 (by rw [hz1]; omega) (by omega) (by omega) (by rw [hz2]; omega)
    (by rw [Nat.zero_add, nextslicecap_zero h0, hz2]; omega)
  simp only [Nat.zero_add] at hrun
  have hg1 := grownCap_ge w n 0 3
  have hg2 := grownCap_le_maxLen w n 0 3 (by unfold maxLen; omega)
  generalize hG : grownCap w n 0 3 = G at *
  have HR : Hid ((w.drew.alloc (.cells (([] : List Value).toArray ++ Builtin.zeroCells (Value.int .i64 0).cells n ++ Builtin.zeroCells (Value.int .i64 0).cells (G - n)) 3)).ownsRow w.heap.size 3 1 (.slice (some ⟨w.heap.size, 0, none⟩) 0 G) 0 []) := by
    refine ⟨rfl, .inr ⟨w.heap.size, G, _, rfl, Nat.le_refl _, heap_alloc_new w.drew _, Nat.zero_le _, hg2, ?_, rfl⟩⟩
    simp only [Array.size_append, size_zeroCells]
    simp [Value.cells]
    omega
  have HB : Hid (Below w.heap.size w (w.drew.alloc (.cells (([] : List Value).toArray ++ Builtin.zeroCells (Value.int .i64 0).cells n ++ Builtin.zeroCells (Value.int .i64 0).cells (G - n)) 3))) := balloc (Below.drew (Below.refl _ _)) _
  generalize (w.drew.alloc (.cells (([] : List Value).toArray ++ Builtin.zeroCells (Value.int .i64 0).cells n ++ Builtin.zeroCells (Value.int .i64 0).cells (G - n)) 3)) = W at *
  clear hG
  have hni : (0 : Int) < (n : Int) := by omega
  unfold maxLen at hg2
  have HRUN : Hid _ := hrun
  clear hrun
  go_enter Try.func45, Try.ntmps45
  go_wp2_with (at_builtin; refine Lib.wpList_append_run _ rfl _ _ _ _ rfl _ _ rfl rfl _ _ (HRUN.out _) ?_)
  go_ret
  exact ⟨G, rfl, hg1, HR.out, HB.out⟩

/-- The total length of the first k of two lists. -/
def sum2 (a b k : Nat) : Nat := if k = 0 then 0 else if k = 1 then a else a + b
/-- The first k of two lists, one behind the other. -/
def cat2 (ls rs : List Int) (k : Nat) : List Int := if k = 0 then [] else if k = 1 then ls else ls ++ rs

set_option maxRecDepth 100000 in
set_option maxHeartbeats 8000000 in
theorem concat_any (B ga oa ca gb ob cb : Nat) (ls rs : List Int) (w : World) (hl : ls.length ≤ 17592186043904) (hr : rs.length ≤ 17592186043904) (h0 : 0 < ls.length + rs.length)
    (ha : ∀ i, i < ls.length → w.cell? ⟨ga, oa + i, none⟩ = some (.int .i64 (ls.getD i 0))) (hb : ∀ i, i < rs.length → w.cell? ⟨gb, ob + i, none⟩ = some (.int .i64 (rs.getD i 0)))
    (b0 : w.cell? ⟨B, 0, none⟩ = some (.slice (some ⟨ga, oa, none⟩) ls.length ca)) (b1 : w.cell? ⟨B, 1, none⟩ = some (.slice (some ⟨gb, ob, none⟩) rs.length cb)) :
    Calls Try.prog 30 #[.slice (some ⟨B, 0, none⟩) 2 2] w fun e w' => ∃ out, e = .returned out ∧ Is w' w.heap.size out (ls ++ rs) ∧ Below w.heap.size w w' := by
  have HA : Hid (∀ i, i < ls.length → w.cell? ⟨ga, oa + i, none⟩ = some (.int .i64 (ls.getD i 0))) := ha
  have HBB : Hid (∀ i, i < rs.length → w.cell? ⟨gb, ob + i, none⟩ = some (.int .i64 (rs.getD i 0))) := hb
  clear ha hb
  go_enter Try.func30, Try.ntmps30
  go_wp2_with fail
  go_loop [11, 3] (fun x n => ∃ k : Nat, x = .int .i64 k ∧ k ≤ 2 ∧ n = .int .i64 (sum2 ls.length rs.length k)) (fun x _ => 2 - (intOf x).toNat)
  case atStart => exact ⟨0, rfl, by omega, rfl⟩
  case round =>
    obtain ⟨k, rfl, hk, rfl⟩ := hrel
    rcases (show k = 0 ∨ k = 1 ∨ k = 2 by omega) with rfl | rfl | rfl
    · have e0 : sum2 ls.length rs.length 0 = 0 := rfl
      rw [e0]
      clear e0
      have hp : ¬ ((ls.length : Int) < 0) := by omega
      go_wp2_with fail
      go_round
      case rel => exact ⟨1, by go_num, by omega, by simp [sum2]⟩
      case measure => simp [intOf]
    · have e0 : sum2 ls.length rs.length 1 = ls.length := rfl
      rw [e0]
      clear e0
      have hp : ¬ ((ls.length : Int) + (rs.length : Int) < 0) := by omega
      go_wp2_with fail
      go_round
      case rel => exact ⟨2, by go_num, by omega, by simp [sum2]⟩
      case measure => simp [intOf]
    · have e0 : sum2 ls.length rs.length 2 = ls.length + rs.length := rfl
      rw [e0]
      clear e0
      go_wp2_with fail
      rw [show ((ls.length : Int) + (rs.length : Int)) = ((ls.length + rs.length : Nat) : Int) by omega]
      refine (grow_some (ls.length + rs.length) w (by omega) (by omega)).mono ?_
      rintro e w1 ⟨cp, rfl, hcp, ho1, hb1⟩
      have HO1 : Hid (w1.ownsRow w.heap.size 3 1 (.slice (some ⟨w.heap.size, 0, none⟩) 0 cp) 0 []) := ho1
      have HB1 : Hid (Below w.heap.size w w1) := hb1
      clear ho1 hb1
      obtain ⟨i0, hi0, hz0, hz1, hz2⟩ := info3_parts
      go_wp2_with fail
      go_loopw [27, 6] (fun x o wr => ∃ k : Nat, x = .int .i64 k ∧ k ≤ 2 ∧ o = .slice (some ⟨w.heap.size, 0, none⟩) (sum2 ls.length rs.length k) cp ∧ wr.ownsRow w.heap.size 3 1 (.slice (some ⟨w.heap.size, 0, none⟩) (sum2 ls.length rs.length k) cp) (sum2 ls.length rs.length k) ((cat2 ls rs k).map (fun z => .int .i64 z)) ∧ Below w.heap.size w wr) (fun x _ _ => 2 - (intOf x).toNat)
      case atStart => exact ⟨0, rfl, by omega, rfl, HO1.out, HB1.out⟩
      case round =>
        clear HO1 HB1
        obtain ⟨k, rfl, hk, rfl, ho, hbl⟩ := hrel
        have HO : Hid (wr.ownsRow w.heap.size 3 1 (.slice (some ⟨w.heap.size, 0, none⟩) (sum2 ls.length rs.length k) cp) (sum2 ls.length rs.length k) ((cat2 ls rs k).map (fun z => .int .i64 z))) := ho
        have HB : Hid (Below w.heap.size w wr) := hbl
        clear ho hbl
        have d0 := kept HB.out b0
        have d1 := kept HB.out b1
        rcases (show k = 0 ∨ k = 1 ∨ k = 2 by omega) with rfl | rfl | rfl
        · have e0 : sum2 ls.length rs.length 0 = 0 := rfl
          rw [e0] at HO ⊢
          clear e0
          have HC : Hid _ := nums_news (w := wr) (fun i hi => kept HB.out (HA.out i hi))
          go_wp2_with (at_builtin; refine wpList_append_own_spare _ rfl _ _ _ rfl w.heap.size 3 i0 1 Try.underlying23 hi0 hz1 w.heap.size 0 cp [] rfl HO.out ⟨ga, oa, none⟩ ls.length ca (ls.map (fun z => .int .i64 z)) rfl (by simp) HC.out (nums_one ls) (by omega) ?_; intro w4 hown4 hgrow4)
          have B4 : Hid (Below w.heap.size w w4) := HB.out.grown hgrow4 HB.out.size (fun k hk => by cases hk; exact Nat.le_refl _)
          go_roundw
          case rel => exact ⟨1, by go_num, by omega, by simp [sum2], by simpa [sum2, cat2] using hown4, B4.out⟩
          case measure => simp [intOf]
        · have e0 : sum2 ls.length rs.length 1 = ls.length := rfl
          rw [e0] at HO ⊢
          clear e0
          have HC : Hid _ := nums_news (w := wr) (fun i hi => kept HB.out (HBB.out i hi))
          go_wp2_with (at_builtin; refine wpList_append_own_spare _ rfl _ _ _ rfl w.heap.size 3 i0 1 Try.underlying23 hi0 hz1 w.heap.size ls.length cp (ls.map (fun z => .int .i64 z)) rfl HO.out ⟨gb, ob, none⟩ rs.length cb (rs.map (fun z => .int .i64 z)) rfl (by simp) HC.out (nums_one rs) (by omega) ?_; intro w4 hown4 hgrow4)
          have B4 : Hid (Below w.heap.size w w4) := HB.out.grown hgrow4 HB.out.size (fun k hk => by cases hk; exact Nat.le_refl _)
          go_roundw
          case rel => exact ⟨2, by go_num, by omega, by simp [sum2], by simpa [sum2, cat2, List.map_append] using hown4, B4.out⟩
          case measure => simp [intOf]
        · have e0 : sum2 ls.length rs.length 2 = ls.length + rs.length := rfl
          rw [e0] at HO ⊢
          clear e0
          go_wp2_with fail
          go_ret
          refine ⟨_, rfl, ⟨?_⟩, HB.out⟩
          rw [List.length_append]
          exact HO.out
theorem app_nil (ad : Addr) (c : Nat) (w : World) : (Builtin.append_ #[23, 23] 23 #[.slice none 0 0, .slice (some ad) 0 c]).run Try.prog w = .ok (.slice none 0 0) w := by kernel_rfl
set_option maxRecDepth 100000 in
set_option maxHeartbeats 4000000 in
theorem grow_none (w : World) : Calls Try.prog 45 #[.slice none 0 0, .int .i64 0] w fun e w' => e = .returned (.slice none 0 0) ∧ w' = w := by
  go_enter Try.func45, Try.ntmps45
  go_wp2_with fail
  go_ret
  exact ⟨rfl, rfl⟩
set_option maxRecDepth 100000 in
set_option maxHeartbeats 8000000 in
theorem concat_none (B ga oa ca gb ob cb : Nat) (w : World)
    (b0 : w.cell? ⟨B, 0, none⟩ = some (.slice (some ⟨ga, oa, none⟩) 0 ca)) (b1 : w.cell? ⟨B, 1, none⟩ = some (.slice (some ⟨gb, ob, none⟩) 0 cb)) :
    Calls Try.prog 30 #[.slice (some ⟨B, 0, none⟩) 2 2] w fun e w' => e = .returned (.slice none 0 0) ∧ Below w.heap.size w w' := by
  go_enter Try.func30, Try.ntmps30
  go_wp2_with fail
  go_loop [11, 3] (fun x n => ∃ k : Nat, x = .int .i64 k ∧ k ≤ 2 ∧ n = .int .i64 0) (fun x _ => 2 - (intOf x).toNat)
  case atStart => exact ⟨0, rfl, by omega, rfl⟩
  case round =>
    obtain ⟨k, rfl, hk, rfl⟩ := hrel
    rcases (show k = 0 ∨ k = 1 ∨ k = 2 by omega) with rfl | rfl | rfl
    · go_wp2_with fail
      go_round
      case rel => exact ⟨1, by go_num, by omega, rfl⟩
      case measure => simp [intOf]
    · go_wp2_with fail
      go_round
      case rel => exact ⟨2, by go_num, by omega, rfl⟩
      case measure => simp [intOf]
    · go_wp2_with fail
      refine (grow_none w).mono ?_
      rintro e w1 ⟨rfl, hw1⟩
      have HW : Hid _ := hw1
      have c0 : w1.cell? ⟨B, 0, none⟩ = some (.slice (some ⟨ga, oa, none⟩) 0 ca) := by rw [hw1]; exact b0
      have c1 : w1.cell? ⟨B, 1, none⟩ = some (.slice (some ⟨gb, ob, none⟩) 0 cb) := by rw [hw1]; exact b1
      have HB : Hid (Below w.heap.size w w1) := by rw [hw1]; exact Below.refl _ _
      clear hw1 HW b0 b1
      go_wp2_with fail
      go_loopw [27, 6] (fun x o wr => ∃ k : Nat, x = .int .i64 k ∧ k ≤ 2 ∧ o = .slice none 0 0 ∧ Below w1.heap.size w1 wr) (fun x _ _ => 2 - (intOf x).toNat)
      case atStart => exact ⟨0, rfl, by omega, rfl, Below.refl _ _⟩
      case round =>
        obtain ⟨k, rfl, hk, rfl, hbr⟩ := hrel
        have BR : Hid (Below w1.heap.size w1 wr) := hbr
        have c0 := kept hbr c0
        have c1 := kept hbr c1
        clear hbr
        rcases (show k = 0 ∨ k = 1 ∨ k = 2 by omega) with rfl | rfl | rfl
        · have HR : Hid _ := app_nil ⟨ga, oa, none⟩ ca wr
          go_wp2_with (at_builtin; refine Lib.wpList_append_run _ rfl _ _ _ _ rfl _ _ rfl rfl _ _ HR.out ?_)
          go_roundw
          case rel => exact ⟨1, by go_num, by omega, rfl, BR.out⟩
          case measure => simp [intOf]
        · have HR : Hid _ := app_nil ⟨gb, ob, none⟩ cb wr
          go_wp2_with (at_builtin; refine Lib.wpList_append_run _ rfl _ _ _ _ rfl _ _ rfl rfl _ _ HR.out ?_)
          go_roundw
          case rel => exact ⟨2, by go_num, by omega, rfl, BR.out⟩
          case measure => simp [intOf]
        · go_wp2_with fail
          go_ret
          exact ⟨rfl, bthen HB.out BR.out⟩
end Go.Proofs.Ytdgihpegdcoilaa
