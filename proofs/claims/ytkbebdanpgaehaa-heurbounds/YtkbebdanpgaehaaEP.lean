/-
  Contracts: slices.Grow of nothing, slices.Concat of two tables.
-/
import Derived.Test.YtkbebdanpgaehaaEI
import Derived.Test.YtkbebdanpgaehaaCB
import Derived.Lib.AppendZerosOnto
import Derived.Deep.DeepAppendRoom
namespace Go.Proofs.Ytkbebdanpgaehaa
open Go.RowKit
attribute [local go_sem ↓] Go.wp_at_zero Go.wp_at_succ

set_option maxRecDepth 100000 in
set_option maxHeartbeats 4000000 in
theorem rgrow_some (n : Nat) (w : World) (h0 : 0 < n) (hn : n ≤ 11728124029610) : Calls Try.prog 59 #[.slice none 0 0, .int .i64 n] w fun e w' => ∃ cap, e = .returned (.slice (some ⟨w.heap.size, 0, none⟩) 0 cap) ∧ n ≤ cap ∧ w'.ownsRow w.heap.size 25 1 (.slice (some ⟨w.heap.size, 0, none⟩) 0 cap) 0 [] ∧ Below w.heap.size w w' := by
  obtain ⟨i0, hi0, hz0, hz1, hz2⟩ := info25_parts
  have hrun := fun ty => Lib.run_append_grow_zeros (P := Try.prog) w 29 3 ty 25 i0 _ .i64 .i64 Try.underlying29 Try.underlying3 hi0 hz0 none 0 0 [] (run_firstCells_none _ _ _ _ _) n h0 (by rw [hz1]; omega) (by omega) (by omega) (by rw [hz2]; omega)
    (by rw [Nat.zero_add, nextslicecap_zero h0, hz2]; omega)
  simp only [Nat.zero_add] at hrun
  have hg1 := grownCap_ge w n 0 25
  have hg2 := grownCap_le_maxLen w n 0 25 (by unfold maxLen; omega)
  generalize hG : grownCap w n 0 25 = G at *
  have HR : Hid ((w.drew.alloc (.cells (([] : List Value).toArray ++ Builtin.zeroCells (Value.slice none 0 0).cells n ++ Builtin.zeroCells (Value.slice none 0 0).cells (G - n)) 25)).ownsRow w.heap.size 25 1 (.slice (some ⟨w.heap.size, 0, none⟩) 0 G) 0 []) := by
    refine ⟨rfl, .inr ⟨w.heap.size, G, _, rfl, Nat.le_refl _, heap_alloc_new w.drew _, Nat.zero_le _, hg2, ?_, rfl⟩⟩
    simp only [Array.size_append, size_zeroCells]
    simp [Value.cells]
    omega
  have HB : Hid (Below w.heap.size w (w.drew.alloc (.cells (([] : List Value).toArray ++ Builtin.zeroCells (Value.slice none 0 0).cells n ++ Builtin.zeroCells (Value.slice none 0 0).cells (G - n)) 25))) := balloc (Below.drew (Below.refl _ _)) _
  generalize (w.drew.alloc (.cells (([] : List Value).toArray ++ Builtin.zeroCells (Value.slice none 0 0).cells n ++ Builtin.zeroCells (Value.slice none 0 0).cells (G - n)) 25)) = W at *
  clear hG
  have hni : (0 : Int) < (n : Int) := by omega
  unfold maxLen at hg2
  have HRUN : Hid _ := hrun
  clear hrun
  go_enter Try.func59, Try.ntmps59
  go_wp2_with (at_builtin; refine Lib.wpList_append_run _ rfl _ _ _ _ rfl _ _ rfl rfl _ _ (HRUN.out _) ?_)
  go_ret
  exact ⟨G, rfl, hg1, HR.out, HB.out⟩
set_option maxRecDepth 100000 in
set_option maxHeartbeats 4000000 in
theorem rgrow_none (w : World) : Calls Try.prog 59 #[.slice none 0 0, .int .i64 0] w fun e w' => e = .returned (.slice none 0 0) ∧ w' = w := by
  go_enter Try.func59, Try.ntmps59
  go_wp2_with fail
  go_ret
  exact ⟨rfl, rfl⟩

/-- A row of values, as it is read. -/
structure SlV (w : World) (v : Value) (us : List Value) : Prop where
  is : (∃ a c, v = .slice a 0 c ∧ us = []) ∨ ∃ b off cap, v = .slice (some ⟨b, off, none⟩) us.length cap ∧ ∀ j u, us[j]? = some u → w.cell? ((⟨b, off, none⟩ : Addr).add j) = some u
theorem SlV.val {w : World} {v : Value} {us : List Value} (h : SlV w v us) : ∃ a c, v = .slice a us.length c := by
  rcases h.is with ⟨a, c, rfl, rfl⟩ | ⟨b, off, cap, rfl, _⟩
  · exact ⟨a, c, rfl⟩
  · exact ⟨_, _, rfl⟩
theorem SlV.below {w w' : World} {v : Value} {us : List Value} (h : SlV w v us) (hb : Below w.heap.size w w') : SlV w' v us := by
  rcases h.is with h | ⟨b, off, cap, e, h⟩
  · exact ⟨.inl h⟩
  · refine ⟨.inr ⟨b, off, cap, e, fun j u hu => ?_⟩⟩
    have hadd : (⟨b, off, none⟩ : Addr).add j = ⟨b, off + j, none⟩ := by unfold Addr.add; split <;> simp_all
    have := h j u hu
    rw [hadd] at this ⊢
    exact kept hb this
theorem rnothing {w : World} {base n c : Nat} {out : Value} {xs : List Value} (h : w.ownsRow base 25 1 out n xs) (ty : TypeId) : (Builtin.append_ #[29, 29] ty #[out, .slice none 0 c]).run Try.prog w = .ok out w := by
  obtain ⟨i0, hi0, hz0, hz1, hz2⟩ := info25_parts
  rcases h.2 with ⟨rfl, rfl⟩ | ⟨g, cap, cur, rfl, _, _, hc, _⟩
  · simp [Builtin.append_, run_underlying Try.underlying29, sizeOf, typeInfo, hi0, Builtin.lenOf, Builtin.firstCells]
  · simp [Builtin.append_, run_underlying Try.underlying29, sizeOf, typeInfo, hi0, Builtin.lenOf, Builtin.firstCells, hc, storeCells]
theorem rapp_nil (ad : Option Addr) (c : Nat) (w : World) : (Builtin.append_ #[29, 29] 29 #[.slice none 0 0, .slice ad 0 c]).run Try.prog w = .ok (.slice none 0 0) w := by cases ad <;> kernel_rfl

set_option maxRecDepth 100000 in
set_option maxHeartbeats 8000000 in
theorem rconcat_none (B : Nat) (x y : Option Addr) (cx cy : Nat) (w : World) (b0 : w.cell? ⟨B, 0, none⟩ = some (.slice x 0 cx)) (b1 : w.cell? ⟨B, 1, none⟩ = some (.slice y 0 cy)) :
    Calls Try.prog 40 #[.slice (some ⟨B, 0, none⟩) 2 2] w fun e w' => e = .returned (.slice none 0 0) ∧ Below w.heap.size w w' := by
  go_enter Try.func40, Try.ntmps40
  go_wp2_with fail
  go_loop [11, 3] (fun x n => ∃ k : Nat, x = .int .i64 k ∧ k ≤ 2 ∧ n = .int .i64 0) (fun x _ => 2 - (intOf x).toNat)
  case atStart => exact ⟨0, rfl, by omega, rfl⟩
  case round =>
    obtain ⟨k, rfl, hk, rfl⟩ := hrel
    rcases (show k = 0 ∨ k = 1 ∨ k = 2 by omega) with rfl | rfl | rfl
    · go_wp2_with fail
      go_round
      case rel => exact ⟨1, by go_num, by omega, rfl⟩
      case measure => simp [intOf]
    · go_wp2_with fail
      go_round
      case rel => exact ⟨2, by go_num, by omega, rfl⟩
      case measure => simp [intOf]
    · go_wp2_with fail
      refine (rgrow_none w).mono ?_
      rintro e w1 ⟨rfl, rfl⟩
      go_wp2_with fail
      go_loop [27, 6] (fun x o => ∃ k : Nat, x = .int .i64 k ∧ k ≤ 2 ∧ o = .slice none 0 0) (fun x _ => 2 - (intOf x).toNat)
      case atStart => exact ⟨0, rfl, by omega, rfl⟩
      case round =>
        obtain ⟨k, rfl, hk, rfl⟩ := hrel
        rcases (show k = 0 ∨ k = 1 ∨ k = 2 by omega) with rfl | rfl | rfl
        · go_wp2_with (at_builtin; refine Lib.wpList_append_run _ rfl _ _ _ _ rfl _ _ rfl rfl _ _ (rapp_nil _ _ _) ?_)
          go_round
          case rel => exact ⟨1, by go_num, by omega, rfl⟩
          case measure => simp [intOf]
        · go_wp2_with (at_builtin; refine Lib.wpList_append_run _ rfl _ _ _ _ rfl _ _ rfl rfl _ _ (rapp_nil _ _ _) ?_)
          go_round
          case rel => exact ⟨2, by go_num, by omega, rfl⟩
          case measure => simp [intOf]
        · go_wp2_with fail
          go_ret
          exact ⟨rfl, Below.refl _ _⟩

/-- The total length of the first k of two rows. -/
def vsum2 (a b k : Nat) : Nat := if k = 0 then 0 else if k = 1 then a else a + b
def vcat2 (ls rs : List Value) (k : Nat) : List Value := if k = 0 then [] else if k = 1 then ls else ls ++ rs
set_option maxRecDepth 100000 in
set_option maxHeartbeats 8000000 in
theorem rconcat_some (B : Nat) (v1 v2 : Value) (ls rs : List Value) (w : World) (h1 : SlV w v1 ls) (h2 : SlV w v2 rs) (o1 : ∀ u ∈ ls, u.oneCell' = true) (o2 : ∀ u ∈ rs, u.oneCell' = true) (h0 : 0 < ls.length + rs.length) (hl : ls.length ≤ 5864062014634) (hr : rs.length ≤ 5864062014634)
    (b0 : w.cell? ⟨B, 0, none⟩ = some v1) (b1 : w.cell? ⟨B, 1, none⟩ = some v2) :
    Calls Try.prog 40 #[.slice (some ⟨B, 0, none⟩) 2 2] w fun e w' => ∃ out, e = .returned out ∧ w'.ownsRow w.heap.size 25 1 out (ls.length + rs.length) (ls ++ rs) ∧ Below w.heap.size w w' := by
  obtain ⟨a1, c1, rfl⟩ := h1.val
  obtain ⟨a2, c2, rfl⟩ := h2.val
  have H1 : Hid _ := h1
  have H2 : Hid _ := h2
  have HONE0 : Hid _ := o1
  have HONE1 : Hid _ := o2
  clear h1 h2 o1 o2
  go_enter Try.func40, Try.ntmps40
  go_wp2_with fail
  go_loop [11, 3] (fun x n => ∃ k : Nat, x = .int .i64 k ∧ k ≤ 2 ∧ n = .int .i64 (vsum2 ls.length rs.length k)) (fun x _ => 2 - (intOf x).toNat)
  case atStart => exact ⟨0, rfl, by omega, rfl⟩
  case round =>
    obtain ⟨k, rfl, hk, rfl⟩ := hrel
    rcases (show k = 0 ∨ k = 1 ∨ k = 2 by omega) with rfl | rfl | rfl
    · have e0 : vsum2 ls.length rs.length 0 = 0 := rfl
      rw [e0]
      clear e0
      have hp : ¬ ((ls.length : Int) < 0) := by omega
      go_wp2_with fail
      go_round
      case rel => exact ⟨1, by go_num, by omega, by simp [vsum2]⟩
      case measure => simp [intOf]
    · have e0 : vsum2 ls.length rs.length 1 = ls.length := rfl
      rw [e0]
      clear e0
      have hp : ¬ ((ls.length : Int) + (rs.length : Int) < 0) := by omega
      go_wp2_with fail
      go_round
      case rel => exact ⟨2, by go_num, by omega, by simp [vsum2]⟩
      case measure => simp [intOf]
    · have e0 : vsum2 ls.length rs.length 2 = ls.length + rs.length := rfl
      rw [e0]
      clear e0
      go_wp2_with fail
      rw [show ((ls.length : Int) + (rs.length : Int)) = ((ls.length + rs.length : Nat) : Int) by omega]
      refine (rgrow_some (ls.length + rs.length) w (by omega) (by omega)).mono ?_
      rintro e w1 ⟨cp, rfl, hcp, ho1, hb1⟩
      have HO1 : Hid (w1.ownsRow w.heap.size 25 1 (.slice (some ⟨w.heap.size, 0, none⟩) 0 cp) 0 []) := ho1
      have HB1 : Hid (Below w.heap.size w w1) := hb1
      have HCP : Hid (ls.length + rs.length ≤ cp) := hcp
      clear ho1 hb1 hcp
      obtain ⟨i0, hi0, hz0, hz1, hz2⟩ := info25_parts
      go_wp2_with fail
      go_loopw [27, 6] (fun x o wr => ∃ k : Nat, x = .int .i64 k ∧ k ≤ 2 ∧ o = .slice (some ⟨w.heap.size, 0, none⟩) (vsum2 ls.length rs.length k) cp ∧ wr.ownsRow w.heap.size 25 1 (.slice (some ⟨w.heap.size, 0, none⟩) (vsum2 ls.length rs.length k) cp) (vsum2 ls.length rs.length k) (vcat2 ls rs k) ∧ Below w.heap.size w wr) (fun x _ _ => 2 - (intOf x).toNat)
      case atStart => exact ⟨0, rfl, by omega, rfl, HO1.out, HB1.out⟩
      case round =>
        clear HO1 HB1
        obtain ⟨k, rfl, hk, rfl, ho, hbl⟩ := hrel
        have HO : Hid (wr.ownsRow w.heap.size 25 1 (.slice (some ⟨w.heap.size, 0, none⟩) (vsum2 ls.length rs.length k) cp) (vsum2 ls.length rs.length k) (vcat2 ls rs k)) := ho
        have HB : Hid (Below w.heap.size w wr) := hbl
        clear ho hbl
        have d0 := kept HB.out b0
        have d1 := kept HB.out b1
        rcases (show k = 0 ∨ k = 1 ∨ k = 2 by omega) with rfl | rfl | rfl
        · have e0 : vsum2 ls.length rs.length 0 = 0 := rfl
          have e1 : vcat2 ls rs 0 = [] := rfl
          rw [e0, e1] at HO
          rw [e0]
          clear e0 e1
          rcases (H1.out.below HB.out).is with ⟨x, cx, hx, hnil⟩ | ⟨bx, ox, cx, hx, hcl⟩
          · simp only [Value.slice.injEq] at hx
            obtain ⟨rfl, hx0, rfl⟩ := hx
            have HN0 : Hid (ls.length = 0) := hx0
            have HNIL : Hid (ls = []) := hnil
            clear hnil hx0
            cases a1 with
            | none =>
              rw [HN0.out] at d0
              go_wp2_with (at_builtin; refine Lib.wpList_append_run _ rfl _ _ _ _ rfl _ _ rfl rfl _ _ (rnothing HO.out _) ?_)
              go_roundw
              case rel => exact ⟨1, by go_num, by omega, by simp [vsum2, HN0.out], by have h := HO.out; simpa [vsum2, vcat2, HN0.out, HNIL.out] using h, HB.out⟩
              case measure => simp [intOf]
            | some ad =>
              go_wp2_with (at_builtin; refine wpList_append_own_spare _ rfl _ _ _ rfl w.heap.size 25 i0 1 Try.underlying29 hi0 hz1 w.heap.size (0) cp ([]) rfl HO.out ad ls.length c1 ls rfl (by simp) (fun j u hu => by rw [HNIL.out] at hu; simp at hu) HONE0.out (by have := HCP.out; omega) ?_; intro w4 hown4 hgrow4)
              have B4 : Hid (Below w.heap.size w w4) := HB.out.grown hgrow4 HB.out.size (fun k hk => by cases hk; exact Nat.le_refl _)
              go_roundw
              case rel => exact ⟨1, by go_num, by omega, by simp [vsum2], by simpa [vsum2, vcat2] using hown4, B4.out⟩
              case measure => simp [intOf]
          · simp only [Value.slice.injEq, true_and] at hx
            obtain ⟨rfl, rfl⟩ := hx
            have HC : Hid _ := hcl
            clear hcl
            go_wp2_with (at_builtin; refine wpList_append_own_spare _ rfl _ _ _ rfl w.heap.size 25 i0 1 Try.underlying29 hi0 hz1 w.heap.size (0) cp ([]) rfl HO.out ⟨bx, ox, none⟩ ls.length c1 ls rfl (by simp) HC.out HONE0.out (by have := HCP.out; omega) ?_; intro w4 hown4 hgrow4)
            have B4 : Hid (Below w.heap.size w w4) := HB.out.grown hgrow4 HB.out.size (fun k hk => by cases hk; exact Nat.le_refl _)
            go_roundw
            case rel => exact ⟨1, by go_num, by omega, by simp [vsum2], by simpa [vsum2, vcat2] using hown4, B4.out⟩
            case measure => simp [intOf]
        · have e0 : vsum2 ls.length rs.length 1 = ls.length := rfl
          have e1 : vcat2 ls rs 1 = ls := rfl
          rw [e0, e1] at HO
          rw [e0]
          clear e0 e1
          rcases (H2.out.below HB.out).is with ⟨x, cx, hx, hnil⟩ | ⟨bx, ox, cx, hx, hcl⟩
          · simp only [Value.slice.injEq] at hx
            obtain ⟨rfl, hx0, rfl⟩ := hx
            have HN0 : Hid (rs.length = 0) := hx0
            have HNIL : Hid (rs = []) := hnil
            clear hnil hx0
            cases a2 with
            | none =>
              rw [HN0.out] at d1
              go_wp2_with (at_builtin; refine Lib.wpList_append_run _ rfl _ _ _ _ rfl _ _ rfl rfl _ _ (rnothing HO.out _) ?_)
              go_roundw
              case rel => exact ⟨2, by go_num, by omega, by simp [vsum2, HN0.out], by have h := HO.out; simpa [vsum2, vcat2, HN0.out, HNIL.out] using h, HB.out⟩
              case measure => simp [intOf]
            | some ad =>
              go_wp2_with (at_builtin; refine wpList_append_own_spare _ rfl _ _ _ rfl w.heap.size 25 i0 1 Try.underlying29 hi0 hz1 w.heap.size (ls.length) cp (ls) rfl HO.out ad rs.length c2 rs rfl (by simp) (fun j u hu => by rw [HNIL.out] at hu; simp at hu) HONE1.out (by have := HCP.out; omega) ?_; intro w4 hown4 hgrow4)
              have B4 : Hid (Below w.heap.size w w4) := HB.out.grown hgrow4 HB.out.size (fun k hk => by cases hk; exact Nat.le_refl _)
              go_roundw
              case rel => exact ⟨2, by go_num, by omega, by simp [vsum2], by simpa [vsum2, vcat2] using hown4, B4.out⟩
              case measure => simp [intOf]
          · simp only [Value.slice.injEq, true_and] at hx
            obtain ⟨rfl, rfl⟩ := hx
            have HC : Hid _ := hcl
            clear hcl
            go_wp2_with (at_builtin; refine wpList_append_own_spare _ rfl _ _ _ rfl w.heap.size 25 i0 1 Try.underlying29 hi0 hz1 w.heap.size (ls.length) cp (ls) rfl HO.out ⟨bx, ox, none⟩ rs.length c2 rs rfl (by simp) HC.out HONE1.out (by have := HCP.out; omega) ?_; intro w4 hown4 hgrow4)
            have B4 : Hid (Below w.heap.size w w4) := HB.out.grown hgrow4 HB.out.size (fun k hk => by cases hk; exact Nat.le_refl _)
            go_roundw
            case rel => exact ⟨2, by go_num, by omega, by simp [vsum2], by simpa [vsum2, vcat2] using hown4, B4.out⟩
            case measure => simp [intOf]
        · have e0 : vsum2 ls.length rs.length 2 = ls.length + rs.length := rfl
          have e1 : vcat2 ls rs 2 = ls ++ rs := rfl
          rw [e0, e1] at HO
          rw [e0]
          clear e0 e1
          go_wp2_with fail
          go_ret
          exact ⟨_, rfl, HO.out, HB.out⟩
end Go.Proofs.Ytkbebdanpgaehaa
