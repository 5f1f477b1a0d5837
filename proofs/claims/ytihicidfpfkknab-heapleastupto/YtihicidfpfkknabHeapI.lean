/-
  Contracts: slices.Grow of nothing, and slices.Concat of two lists of pops.
-/
import Derived.Test.YtihicidfpfkknabHeapH
import Derived.Lib.AppendZerosOnto
namespace Go.Proofs.Ytihicidfpfkknab
open Go.RowKit
open Hp

/-- A literal list of pops in a block of its own. -/
theorem lit_row (w : World) (ps : List (Int × Int)) (h : ps.length ≤ maxLen) : Row (w.alloc (.cells (flat ps).toArray 32)) w.heap.size ps.length ps :=
  ⟨(flat ps).toArray, heap_alloc_new _ _, Nat.le_refl _, h, by simp [flat_length], by simp [← flat_length]⟩

theorem lit_slr (w : World) (ps : List (Int × Int)) (cs : Array Value) (n : Nat) (hn : ps.length = n) (hc : cs = (flat ps).toArray) (h : ps.length ≤ maxLen) : SlR (w.alloc (.cells cs 32)) (.slice (some ⟨w.heap.size, 0, none⟩) n n) ps := by
  subst hn hc
  exact (lit_row w ps h).slr

theorem news_flat {w : World} {b off : Nat} {ls : List (Int × Int)} (h : ∀ i, i < ls.length → w.cell? ⟨b, off + i * 2, none⟩ = some (.int .i64 (at' ls i).1) ∧ w.cell? ⟨b, off + i * 2 + 1, none⟩ = some (.int .i64 (at' ls i).2)) :
    ∀ (j : Nat) (u : Value), (flat ls)[j]? = some u → w.cell? ((⟨b, off, none⟩ : Addr).add j) = some u := by
  intro j u hu
  have hadd : (⟨b, off, none⟩ : Addr).add j = ⟨b, off + j, none⟩ := by unfold Addr.add; split <;> simp_all
  have hj : j < (flat ls).length := by
    rcases Nat.lt_or_ge j (flat ls).length with h | h
    · exact h
    · rw [List.getElem?_eq_none h] at hu; cases hu
  rw [flat_length] at hj
  have hi : j / 2 < ls.length := by omega
  obtain ⟨h1, h2⟩ := h (j / 2) hi
  obtain ⟨f1, f2⟩ := flat_get ls (j / 2) hi
  rw [hadd]
  rcases (show j = j / 2 * 2 ∨ j = j / 2 * 2 + 1 by omega) with e | e
  · rw [← e] at f1 h1
    rw [f1] at hu
    rw [h1, hu]
  · rw [← e] at f2
    rw [f2] at hu
    rw [show off + j = off + j / 2 * 2 + 1 by omega, h2, hu]
theorem flat_one (l : List (Int × Int)) : ∀ u ∈ flat l, u.oneCell' = true := by
  induction l with
  | nil => simp [flat]
  | cons p r ih => simp [flat, Value.oneCell']; exact ih

set_option maxRecDepth 100000 in
set_option maxHeartbeats 4000000 in
theorem grow_zero (w : World) : Calls Try.prog 18 #[.slice none 0 0, .int .i64 0] w fun e w' => e = .returned (.slice none 0 0) ∧ w' = w := by
  go_enter Try.func18, Try.ntmps18
  go_wp2
  go_ret
  exact ⟨rfl, rfl⟩

set_option maxRecDepth 100000 in
set_option maxHeartbeats 4000000 in
theorem grow_some (n : Nat) (w : World) (h0 : 0 < n) (hn : n ≤ 8796093022208) : Calls Try.prog 18 #[.slice none 0 0, .int .i64 n] w fun e w' => ∃ cap, e = .returned (.slice (some ⟨w.heap.size, 0, none⟩) 0 cap) ∧ Row w' w.heap.size cap [] ∧ Below w.heap.size w w' := by
  obtain ⟨i0, hi0, hz0, hz1, hz2⟩ := info_parts info32
  have hrun := fun ty => Lib.run_append_grow_zeros (P := Try.prog) w 30 3 ty 32 i0 _ .i64 .i64 Try.underlying30 Try.underlying3 hi0 hz0 none 0 0 [] (run_firstCells_none _ _ _ _ _) n h0 (by rw [hz1]; omega) (by omega) (by omega) (by rw [hz2]; omega)
    (growslice_fits (by omega) (by rw [hz2]; omega))
  simp only [Nat.zero_add] at hrun
  have hg1 := grownCap_ge w n 0 32
  have hg2 := grownCap_le_maxLen w n 0 32 (by unfold maxLen; omega)
  generalize hG : grownCap w n 0 32 = G at *
  have HR : Hid (Row (w.drew.alloc (.cells (([] : List Value).toArray ++ Builtin.zeroCells (Value.agg #[.int .i64 0, .int .i64 0]).cells n ++ Builtin.zeroCells (Value.agg #[.int .i64 0, .int .i64 0]).cells (G - n)) 32)) w.heap.size G []) := by
    refine ⟨_, heap_alloc_new w.drew _, Nat.zero_le _, hg2, ?_, rfl⟩
    simp only [Array.size_append, size_zeroCells]
    simp [Value.cells]
    omega
  have HB : Hid (Below w.heap.size w (w.drew.alloc (.cells (([] : List Value).toArray ++ Builtin.zeroCells (Value.agg #[.int .i64 0, .int .i64 0]).cells n ++ Builtin.zeroCells (Value.agg #[.int .i64 0, .int .i64 0]).cells (G - n)) 32))) := balloc (Below.drew (Below.refl _ _)) _
  generalize (w.drew.alloc (.cells (([] : List Value).toArray ++ Builtin.zeroCells (Value.agg #[.int .i64 0, .int .i64 0]).cells n ++ Builtin.zeroCells (Value.agg #[.int .i64 0, .int .i64 0]).cells (G - n)) 32)) = W at *
  clear hG
  have hni : (0 : Int) < (n : Int) := by omega
  unfold maxLen at hg2
  have HRUN : Hid _ := hrun
  clear hrun
  go_enter Try.func18, Try.ntmps18
  go_wp2_with (at_builtin; refine Lib.wpList_append_run _ rfl _ _ _ _ rfl _ _ rfl rfl _ _ (HRUN.out _) ?_)
  go_ret
  exact ⟨G, rfl, HR.out, HB.out⟩

theorem grow_any (n : Nat) (w : World) (hn : n ≤ 8796093022208) : Calls Try.prog 18 #[.slice none 0 0, .int .i64 n] w fun e w' => ∃ out, e = .returned out ∧ w'.ownsRow w.heap.size 32 2 out 0 [] ∧ Below w.heap.size w w' := by
  rcases Nat.eq_zero_or_pos n with rfl | h0
  · refine (grow_zero w).mono ?_
    rintro e w' ⟨rfl, rfl⟩
    exact ⟨_, rfl, World.ownsRow_nil _ _ _ _, Below.refl _ _⟩
  · refine (grow_some n w h0 hn).mono ?_
    rintro e w' ⟨cap, rfl, h1, h2⟩
    exact ⟨_, rfl, h1.owns (Nat.le_refl _), h2⟩

/-- Nothing is appended. -/
theorem run_append_nothing {w : World} {base n c : Nat} {out : Value} {xs : List Value} (h : w.ownsRow base 32 2 out n xs) (ty : TypeId) {m : Nat} (hm : m = 0) : (Builtin.append_ #[30, 30] ty #[out, .slice none m c]).run Try.prog w = .ok out w := by
  subst hm
  obtain ⟨i0, hi0, hz0, hz1, hz2⟩ := info_parts info32
  rcases h.2 with ⟨rfl, rfl⟩ | ⟨g, cap, cur, rfl, _, _, hc, _⟩
  · simp [Builtin.append_, run_underlying Try.underlying30, sizeOf, typeInfo, hi0, Builtin.lenOf, Builtin.firstCells]
  · simp [Builtin.append_, run_underlying Try.underlying30, sizeOf, typeInfo, hi0, Builtin.lenOf, Builtin.firstCells, hc, storeCells]

theorem own_next {w : World} {b n m : Nat} {v : Value} {xs ys : List (Int × Int)} (h : w.ownsRow b 32 2 v n (flat xs)) (hn : n = m) (hx : xs = ys) : w.ownsRow b 32 2 v m (flat ys) := by
  subst hn hx; exact h

/-- The total length of the first k of two lists. -/
def sum2 (a b k : Nat) : Nat := if k = 0 then 0 else if k = 1 then a else a + b
/-- The first k of two lists, one behind the other. -/
def cat2 (ls rs : List (Int × Int)) (k : Nat) : List (Int × Int) := if k = 0 then [] else if k = 1 then ls else ls ++ rs

set_option maxRecDepth 100000 in
set_option maxHeartbeats 8000000 in
theorem concat_any (B : Nat) (v u : Value) (ls rs : List (Int × Int)) (w : World) (hv : SlR w v ls) (hu : SlR w u rs) (hl : ls.length ≤ 1048576) (hr : rs.length ≤ 1048576)
    (b0 : w.cell? ⟨B, 0, none⟩ = some v) (b1 : w.cell? ⟨B, 1, none⟩ = some u) :
    Calls Try.prog 13 #[.slice (some ⟨B, 0, none⟩) 2 2] w fun e w' => ∃ out, e = .returned out ∧ SlR w' out (ls ++ rs) ∧ Below w.heap.size w w' := by
  obtain ⟨a, c, rfl⟩ := hv.val
  obtain ⟨a', c', rfl⟩ := hu.val
  have HV : Hid (SlR w (.slice a ls.length c) ls) := hv
  have HU : Hid (SlR w (.slice a' rs.length c') rs) := hu
  clear hv hu
  go_enter Try.func13, Try.ntmps13
  go_wp2_with fail
  go_loop [11, 3] (fun x n => ∃ k : Nat, x = .int .i64 k ∧ k ≤ 2 ∧ n = .int .i64 (sum2 ls.length rs.length k)) (fun x _ => 2 - (intOf x).toNat)
  case atStart => exact ⟨0, rfl, by omega, rfl⟩
  case round =>
    obtain ⟨k, rfl, hk, rfl⟩ := hrel
    rcases (show k = 0 ∨ k = 1 ∨ k = 2 by omega) with rfl | rfl | rfl
    · have e0 : sum2 ls.length rs.length 0 = 0 := rfl
      rw [e0]
      clear e0
      have hp : ¬ ((ls.length : Int) < 0) := by omega
      go_wp2_with fail
      go_round
      case rel => exact ⟨1, by go_num, by omega, by simp [sum2]⟩
      case measure => simp [intOf]
    · have e0 : sum2 ls.length rs.length 1 = ls.length := rfl
      rw [e0]
      clear e0
      have hp : ¬ ((ls.length : Int) + (rs.length : Int) < 0) := by omega
      go_wp2_with fail
      go_round
      case rel => exact ⟨2, by go_num, by omega, by simp [sum2]⟩
      case measure => simp [intOf]
    · have e0 : sum2 ls.length rs.length 2 = ls.length + rs.length := rfl
      rw [e0]
      clear e0
      go_wp2_with fail
      rw [show ((ls.length : Int) + (rs.length : Int)) = ((ls.length + rs.length : Nat) : Int) by omega]
      refine (grow_any (ls.length + rs.length) w (by omega)).mono ?_
      rintro e w1 ⟨out, rfl, ho1, hb1⟩
      have HO1 : Hid (w1.ownsRow w.heap.size 32 2 out 0 []) := ho1
      clear ho1
      obtain ⟨i0, hi0, hz0, hz1, hz2⟩ := info_parts info32
      go_wp2_with fail
      go_loopw [27, 6] (fun x o wr => ∃ k : Nat, x = .int .i64 k ∧ k ≤ 2 ∧ wr.ownsRow w.heap.size 32 2 o (sum2 ls.length rs.length k) (flat (cat2 ls rs k)) ∧ Below w.heap.size w wr) (fun x _ _ => 2 - (intOf x).toNat)
      case atStart => exact ⟨0, rfl, by omega, HO1.out, hb1⟩
      case round =>
        clear HO1 hb1
        obtain ⟨k, rfl, hk, ho, hbl⟩ := hrel
        have HO : Hid (wr.ownsRow w.heap.size 32 2 u6 (sum2 ls.length rs.length k) (flat (cat2 ls rs k))) := ho
        clear ho
        have d0 := kept hbl b0
        have d1 := kept hbl b1
        have hwz := hbl.size
        rcases (show k = 0 ∨ k = 1 ∨ k = 2 by omega) with rfl | rfl | rfl
        · rcases HV.out with ⟨z1, z2, hz, hnil⟩ | ⟨bb, off, cap, hz, hcl⟩
          · have HNIL : Hid (ls = []) := hnil
            have HLN : Hid (ls.length = 0) := by unfold Hid; rw [hnil]; rfl
            clear hnil hz
            cases a with
            | none =>
              go_wp2_with (at_builtin; refine Lib.wpList_append_run _ rfl _ _ _ _ rfl _ _ rfl rfl _ _ (run_append_nothing HO.out _ HLN.out) ?_)
              go_roundw
              case rel => exact ⟨1, by go_num, by omega, own_next HO.out (show 0 = ls.length from HLN.out.symm) (show [] = ls from HNIL.out.symm), hbl⟩
              case measure => simp [intOf]
            | some ad =>
              go_wp2_with (at_builtin; refine wpList_append_own_at _ rfl _ _ _ rfl w.heap.size 32 i0 _ 2 16 Try.underlying30 hi0 hz0 hz1 hz2 rfl (by omega) _ _ _ rfl HO.out ad ls.length c (flat ls) rfl (flat_length ls) (fun j u hu => by rw [HNIL.out] at hu; simp [flat] at hu) (flat_one ls) (by simp [sum2]; unfold maxLen; omega) (by simp [sum2]; omega) (by omega) ?_; intro v' W4 hown4 hgrow4 hiff4 hat4)
              go_roundw
              case rel => exact ⟨1, by go_num, by omega, by simpa [sum2, cat2, flat_append, flat] using hown4, hbl.grown hgrow4 hwz (fun k hk => (ownBlock_lt HO.out k hk).1)⟩
              case measure => simp [intOf]
          · cases hz
            have HC : Hid (∀ (j : Nat) (u : Value), (flat ls)[j]? = some u → wr.cell? ((⟨bb, off, none⟩ : Addr).add j) = some u) :=
              news_flat (fun i hi => ⟨kept hbl (hcl i hi).1, kept hbl (hcl i hi).2⟩)
            clear hcl
            go_wp2_with (at_builtin; refine wpList_append_own_at _ rfl _ _ _ rfl w.heap.size 32 i0 _ 2 16 Try.underlying30 hi0 hz0 hz1 hz2 rfl (by omega) _ _ _ rfl HO.out ⟨bb, off, none⟩ ls.length c (flat ls) rfl (flat_length ls) HC.out (flat_one ls) (by simp [sum2]; unfold maxLen; omega) (by simp [sum2]; omega) (by omega) ?_; intro v' W4 hown4 hgrow4 hiff4 hat4)
            go_roundw
            case rel => exact ⟨1, by go_num, by omega, by simpa [sum2, cat2, flat_append, flat] using hown4, hbl.grown hgrow4 hwz (fun k hk => (ownBlock_lt HO.out k hk).1)⟩
            case measure => simp [intOf]
        · rcases HU.out with ⟨z1, z2, hz, hnil⟩ | ⟨bb, off, cap, hz, hcl⟩
          · have HNIL : Hid (rs = []) := hnil
            have HLN : Hid (rs.length = 0) := by unfold Hid; rw [hnil]; rfl
            clear hnil hz
            cases a' with
            | none =>
              go_wp2_with (at_builtin; refine Lib.wpList_append_run _ rfl _ _ _ _ rfl _ _ rfl rfl _ _ (run_append_nothing HO.out _ HLN.out) ?_)
              go_roundw
              case rel => exact ⟨2, by go_num, by omega, own_next HO.out (show ls.length = ls.length + rs.length by have := HLN.out; omega) (show ls = ls ++ rs by rw [HNIL.out, List.append_nil]), hbl⟩
              case measure => simp [intOf]
            | some ad =>
              go_wp2_with (at_builtin; refine wpList_append_own_at _ rfl _ _ _ rfl w.heap.size 32 i0 _ 2 16 Try.underlying30 hi0 hz0 hz1 hz2 rfl (by omega) _ _ _ rfl HO.out ad rs.length c' (flat rs) rfl (flat_length rs) (fun j u hu => by rw [HNIL.out] at hu; simp [flat] at hu) (flat_one rs) (by simp [sum2]; unfold maxLen; omega) (by simp [sum2]; omega) (by omega) ?_; intro v' W4 hown4 hgrow4 hiff4 hat4)
              go_roundw
              case rel => exact ⟨2, by go_num, by omega, by simpa [sum2, cat2, flat_append, flat] using hown4, hbl.grown hgrow4 hwz (fun k hk => (ownBlock_lt HO.out k hk).1)⟩
              case measure => simp [intOf]
          · cases hz
            have HC : Hid (∀ (j : Nat) (u : Value), (flat rs)[j]? = some u → wr.cell? ((⟨bb, off, none⟩ : Addr).add j) = some u) :=
              news_flat (fun i hi => ⟨kept hbl (hcl i hi).1, kept hbl (hcl i hi).2⟩)
            clear hcl
            go_wp2_with (at_builtin; refine wpList_append_own_at _ rfl _ _ _ rfl w.heap.size 32 i0 _ 2 16 Try.underlying30 hi0 hz0 hz1 hz2 rfl (by omega) _ _ _ rfl HO.out ⟨bb, off, none⟩ rs.length c' (flat rs) rfl (flat_length rs) HC.out (flat_one rs) (by simp [sum2]; unfold maxLen; omega) (by simp [sum2]; omega) (by omega) ?_; intro v' W4 hown4 hgrow4 hiff4 hat4)
            go_roundw
            case rel => exact ⟨2, by go_num, by omega, by simpa [sum2, cat2, flat_append, flat] using hown4, hbl.grown hgrow4 hwz (fun k hk => (ownBlock_lt HO.out k hk).1)⟩
            case measure => simp [intOf]
        · go_wp2_with fail
          go_ret
          refine ⟨_, rfl, ?_, hbl⟩
          have ho : wr.ownsRow w.heap.size 32 2 _ (ls.length + rs.length) (flat (ls ++ rs)) := HO.out
          rcases ho.2 with ⟨hz, h0⟩ | ⟨g, cap, cur, hz, _⟩
          · have e1 : ls ++ rs = [] := List.length_eq_zero_iff.1 (by rw [List.length_append]; omega)
            rw [e1, hz]
            exact .inl ⟨_, _, rfl, rfl⟩
          · rw [hz] at ho ⊢
            have := (Row.of_owns (by simp) ho).1.slr
            simpa using this

end Go.Proofs.Ytihicidfpfkknab
