/-
  Contracts: roomy and filled, of numbers.
-/
import Derived.Test.YtidbbkpgmcheiaaRV
import Derived.Deep.DeepAppendRoom
namespace Go.Proofs.Ytidbbkpgmcheiaa
open Go.RowKit
open Nm
attribute [local go_sem ↓] Go.wp_at_zero Go.wp_at_succ

/-- A list with room for three behind it. -/
structure Rm (w : World) (g : Nat) (l : List Int) (r : List Value) : Prop where
  at_ : w.heap[g]? = some (.cells (l.map (fun z => Value.int .i64 z) ++ r).toArray 3 (0, 0))
  three : r.length = 3
theorem Rm.lt {w : World} {g : Nat} {l : List Int} {r : List Value} (h : Rm w g l r) : g < w.heap.size := by
  rcases Nat.lt_or_ge g w.heap.size with hlt | hge
  · exact hlt
  · have := h.at_; rw [Array.getElem?_eq_none hge] at this; cases this
theorem Rm.below {w w' : World} {g : Nat} {l : List Int} {r : List Value} (h : Rm w g l r) (hb : Below w.heap.size w w') : Rm w' g l r := ⟨(hb.block _ h.lt).trans h.at_, h.three⟩
theorem Rm.cell {w : World} {g : Nat} {l : List Int} {r : List Value} (h : Rm w g l r) (i : Nat) : w.cell? ⟨g, i, none⟩ = (l.map (fun z => Value.int .i64 z) ++ r)[i]? ∧ w.frozen? ⟨g, i, none⟩ = false := by
  have h1 := h.at_
  unfold World.cell? World.frozen?
  rw [h1]
  exact ⟨by simp, by simp⟩
theorem Rm.room {w : World} {g : Nat} {l : List Int} {r : List Value} (h : Rm w g l r) (i : Nat) (hi : i < 3) : ∃ u, w.cell? ⟨g, l.length + i, none⟩ = some u ∧ r[i]? = some u ∧ w.frozen? ⟨g, l.length + i, none⟩ = false := by
  obtain ⟨h1, h2⟩ := h.cell (l.length + i)
  have h3 := h.three
  rw [List.getElem?_append_right (by simp)] at h1
  simp only [List.length_map, Nat.add_sub_cancel_left] at h1
  rw [List.getElem?_eq_getElem (by omega)] at h1
  exact ⟨_, h1, List.getElem?_eq_getElem (by omega), h2⟩
theorem Rm.sl {w : World} {g : Nat} {l : List Int} {r : List Value} (h : Rm w g l r) : SlI w (.slice (some ⟨g, 0, none⟩) l.length (l.length + 3)) l := by
  refine .row g 0 (l.length + 3) rfl (fun i hi => ?_) (by omega)
  rw [Nat.zero_add, (h.cell i).1, List.getElem?_append_left (by simpa using hi)]
  simp [hi]
theorem Rm.put {w : World} {g : Nat} {l : List Int} {r : List Value} (h : Rm w g l r) (i : Nat) (x : Value) : Rm (w.setCell ⟨g, l.length + i, none⟩ x) g l (r.set i x) := by
  refine ⟨(heap_setCell_same _ _ _ _ _ _ _ h.at_).trans ?_, by simpa using h.three⟩
  congr 2
  rw [List.setIfInBounds_toArray, List.set_append_right _ _ (by simp)]
  simp
theorem Rm.of {w : World} {base n c : Nat} {g : Nat} {l : List Int} (hn : n = l.length) (hc : c = l.length + 3) (h : w.ownsRow base 3 1 (.slice (some ⟨g, 0, none⟩) n c) n (l.map (fun z => Value.int .i64 z))) : ∃ r, Rm w g l r := by
  subst hn hc
  rcases h.2 with ⟨h1, _⟩ | ⟨g', cap, cur, h1, _, h2, h3, h4, h5, h6⟩
  · cases h1
  · simp only [Value.slice.injEq, Option.some.injEq, Addr.mk.injEq] at h1
    obtain ⟨⟨rfl, -, -⟩, -, rfl⟩ := h1
    have h5 : cur.size = l.length + 3 := by omega
    have h6 : cur.toList.take l.length = l.map (fun z => Value.int .i64 z) := by simpa using h6
    refine ⟨cur.toList.drop l.length, ?_, by simp; omega⟩
    rw [h2, ← h6, List.take_append_drop]

set_option maxRecDepth 100000 in
set_option maxHeartbeats 8000000 in
theorem roomy_row (x : Int) (v : Value) (l : List Int) (w : World) (hv : SlI w v l) (h0 : 0 < l.length) (hl : l.length ≤ 17592186043904) :
    Calls Try.prog 40 #[v, .int .i64 x] w fun e w' => e = .returned (.slice (some ⟨w.heap.size, 0, none⟩) l.length (l.length + 3)) ∧ Rm w' w.heap.size l [.int .i64 x, .int .i64 x, .int .i64 x] ∧ Below w.heap.size w w' := by
  obtain ⟨g, o, c, rfl, hcl⟩ := hv.some' h0
  have HCL : Hid (∀ i, i < l.length → w.cell? ⟨g, o + i, none⟩ = some (.int .i64 (l.getD i 0))) := hcl
  obtain ⟨i0, hi0, hz0, hz1, hz2⟩ := info3_parts
  have HNA : Hid (∀ w', Below w.heap.size w w' → ∀ (j : Nat) (u : Value), (l.map (fun z => Value.int .i64 z))[j]? = some u → w'.cell? ((⟨g, o, none⟩ : Addr).add j) = some u) := fun w' hb => nums_news (fun i hi => kept hb (HCL.out i hi))
  obtain ⟨cc, hcc⟩ : ∃ cc : Nat, cc = l.length + 3 := ⟨_, rfl⟩
  have hci : (l.length : Int) + 3 = (cc : Int) := by omega
  have HCC : Hid _ := hcc
  have hcle : cc ≤ 17592186043907 := by omega
  obtain ⟨w2, hrun, hown2, hgr2⟩ := run_make_own (P := Try.prog) w w.heap.size 25 3 i0 _ 1 Try.underlying25 hi0 hz0 hz1 .i64 .i64 cc (by rw [hz2]; omega) (by unfold maxLen; omega) (Nat.le_refl _)
  have B2 : Hid (Below w.heap.size w w2) := (Below.refl _ _).grown hgr2 (Nat.le_refl _) (fun k hk => by cases hk)
  clear hv hcl hcc hgr2
  rw [← HCC.out]
  go_enter Try.func40, Try.ntmps40
  go_wp2_with (first
    | (at_builtin; refine wpList_append_own_spare _ rfl _ _ _ rfl w.heap.size 3 i0 1 Try.underlying25 hi0 hz1 w.heap.size 0 cc [] rfl hown2 ⟨g, o, none⟩ l.length c (l.map (fun z => .int .i64 z)) rfl (by simp) (HNA.out w2 B2.out) (nums_one l) (by have := HCC.out; omega) ?_; intro w3 hown3 hgr3; rw [Nat.zero_add, List.nil_append] at hown3; have B3 : Hid (Below w.heap.size w w3) := (by exact B2.out.grown hgr3 B2.out.size (fun k hk => by cases hk; exact Nat.le_refl _)))
    | go_in)
  obtain ⟨r3, rm3⟩ := Rm.of rfl HCC.out hown3
  have R3 : Hid _ := rm3
  have HCL2 : Hid _ := hci
  clear rm3 hown2 hown3 hgr3 hrun HNA HCL hci
  go_loopw [13] (fun z wr => ∃ (k : Nat) (r : List Value), z = .int .i64 k ∧ k ≤ 3 ∧ Rm wr w.heap.size l r ∧ (∀ i, i < k → r[i]? = some (.int .i64 x)) ∧ Below w.heap.size w wr) (fun z _ => 3 - (intOf z).toNat)
  case atStart => exact ⟨0, r3, rfl, by omega, R3.out, fun i hi => absurd hi (by omega), B3.out⟩
  case round =>
    clear R3 B3
    obtain ⟨k, r, rfl, hk, hr, hx, hb⟩ := hrel
    have HR : Hid _ := hr
    have HX : Hid _ := hx
    have HB : Hid (Below w.heap.size w wr) := hb
    clear hr hx hb
    have hci := HCL2.out
    by_cases hlt : k < 3
    · have hki : (k : Int) < 3 := by omega
      obtain ⟨u, u1, u2, u3⟩ := HR.out.room k hlt
      have hidx : (l.length : Int) + (k : Int) < (cc : Int) := by omega
      have hu := HR.out.put k (.int .i64 x)
      have HU : Hid _ := hu
      have H3 : Hid _ := HR.out.three
      clear hu
      go_wp2_with fail
      go_roundw
      case rel =>
        refine ⟨k + 1, r.set k (.int .i64 x), by go_num, by omega, HU.out, fun i hi => ?_, Below.setCell HB.out (by simp) _⟩
        have := H3.out
        rw [List.getElem?_set]
        by_cases e : k = i
        · subst e; rw [if_pos rfl, if_pos (by omega)]
        · rw [if_neg e]; exact HX.out i (by omega)
      case measure => simp [intOf]; omega
    · have hke : k = 3 := by omega
      subst hke
      have HE : Hid (r = [.int .i64 x, .int .i64 x, .int .i64 x]) := by
        have h1 := HR.out.three
        apply List.ext_getElem?
        intro i
        rcases (show i = 0 ∨ i = 1 ∨ i = 2 ∨ 3 ≤ i by omega) with h | h | h | h
        · subst h; exact HX.out 0 (by omega)
        · subst h; exact HX.out 1 (by omega)
        · subst h; exact HX.out 2 (by omega)
        · rw [List.getElem?_eq_none (by omega), List.getElem?_eq_none (by simpa using h)]
      go_wp2_with fail
      go_ret
      exact ⟨rfl, by rw [← HE.out]; exact HR.out, HB.out⟩
/-- Nothing is appended. -/
theorem append_none {w : World} {base n : Nat} {out : Value} {xs : List Value} (h : w.ownsRow base 3 1 out n xs) (ty : TypeId) (a : Option Addr) (c0 : Nat) : (Builtin.append_ #[25, 25] ty #[out, .slice a 0 c0]).run Try.prog w = .ok out w := by
  obtain ⟨i0, hi0, hz0, hz1, hz2⟩ := info3_parts
  have hl : ∀ (x : Addr), (loadCells x 0).run Try.prog w = .ok #[] w := fun x => by simpa using run_loadCells_list (P := Try.prog) w x [] (by simp)
  rcases h.2 with ⟨rfl, rfl⟩ | ⟨g, cap, cur, rfl, _, _, hc, _⟩
  · cases a <;> simp [Builtin.append_, run_underlying Try.underlying25, sizeOf, typeInfo, hi0, Builtin.lenOf, Builtin.firstCells, hl]
  · cases a <;> simp [Builtin.append_, run_underlying Try.underlying25, sizeOf, typeInfo, hi0, Builtin.lenOf, Builtin.firstCells, hc, storeCells, hl]
set_option maxRecDepth 100000 in
set_option maxHeartbeats 8000000 in
theorem roomy_some (x : Int) (ad : Addr) (c : Nat) (w : World) :
    Calls Try.prog 40 #[.slice (some ad) 0 c, .int .i64 x] w fun e w' => e = .returned (.slice (some ⟨w.heap.size, 0, none⟩) 0 3) ∧ Rm w' w.heap.size [] [.int .i64 x, .int .i64 x, .int .i64 x] ∧ Below w.heap.size w w' := by
  obtain ⟨i0, hi0, hz0, hz1, hz2⟩ := info3_parts
  obtain ⟨w2, hrun, hown2, hgr2⟩ := run_make_own (P := Try.prog) w w.heap.size 25 3 i0 _ 1 Try.underlying25 hi0 hz0 hz1 .i64 .i64 3 (by rw [hz2]; omega) (by unfold maxLen; omega) (Nat.le_refl _)
  rw [show ((3 : Nat) : Int) = 3 from rfl] at hrun
  have B3 : Hid (Below w.heap.size w w2) := (Below.refl _ _).grown hgr2 (Nat.le_refl _) (fun k hk => by cases hk)
  have B2 : Hid _ := B3.out
  clear hgr2 B3
  go_enter Try.func40, Try.ntmps40
  go_wp2_with (first
    | (at_builtin; refine wpList_append_own_spare _ rfl _ _ _ rfl w.heap.size 3 i0 1 Try.underlying25 hi0 hz1 w.heap.size 0 3 [] rfl hown2 ad 0 c [] rfl (by simp) (by simp) (by simp) (by omega) ?_; intro w3 hown3 hgr3; rw [Nat.zero_add, List.nil_append] at hown3; have B3 : Hid (Below w.heap.size w w3) := (by exact B2.out.grown hgr3 B2.out.size (fun k hk => by cases hk; exact Nat.le_refl _)))
    | go_in)
  obtain ⟨r3, rm3⟩ := Rm.of (l := []) rfl rfl hown3
  have R3 : Hid _ := rm3
  clear rm3 hown2 hown3 hgr3 hrun
  go_loopw [13] (fun z wr => ∃ (k : Nat) (r : List Value), z = .int .i64 k ∧ k ≤ 3 ∧ Rm wr w.heap.size [] r ∧ (∀ i, i < k → r[i]? = some (.int .i64 x)) ∧ Below w.heap.size w wr) (fun z _ => 3 - (intOf z).toNat)
  case atStart => exact ⟨0, r3, rfl, by omega, R3.out, fun i hi => absurd hi (by omega), B3.out⟩
  case round =>
    clear R3 B3
    obtain ⟨k, r, rfl, hk, hr, hx, hb⟩ := hrel
    have HR : Hid _ := hr
    have HX : Hid _ := hx
    have HB : Hid (Below w.heap.size w wr) := hb
    clear hr hx hb
    by_cases hlt : k < 3
    · have hki : (k : Int) < 3 := by omega
      obtain ⟨u, u1, u2, u3⟩ := HR.out.room k hlt
      rw [List.length_nil, Nat.zero_add] at u1 u3
      have hu := HR.out.put k (.int .i64 x)
      rw [List.length_nil, Nat.zero_add] at hu
      have HU : Hid _ := hu
      have H3 : Hid _ := HR.out.three
      clear hu
      go_wp2_with fail
      go_roundw
      case rel =>
        refine ⟨k + 1, r.set k (.int .i64 x), by go_num, by omega, HU.out, fun i hi => ?_, Below.setCell HB.out (by simp) _⟩
        have := H3.out
        rw [List.getElem?_set]
        by_cases e : k = i
        · subst e; rw [if_pos rfl, if_pos (by omega)]
        · rw [if_neg e]; exact HX.out i (by omega)
      case measure => simp [intOf]; omega
    · have hke : k = 3 := by omega
      subst hke
      have HE : Hid (r = [.int .i64 x, .int .i64 x, .int .i64 x]) := by
        have h1 := HR.out.three
        apply List.ext_getElem?
        intro i
        rcases (show i = 0 ∨ i = 1 ∨ i = 2 ∨ 3 ≤ i by omega) with h | h | h | h
        · subst h; exact HX.out 0 (by omega)
        · subst h; exact HX.out 1 (by omega)
        · subst h; exact HX.out 2 (by omega)
        · rw [List.getElem?_eq_none (by omega), List.getElem?_eq_none (by simpa using h)]
      go_wp2_with fail
      go_ret
      exact ⟨rfl, by rw [← HE.out]; exact HR.out, HB.out⟩
set_option maxRecDepth 100000 in
set_option maxHeartbeats 8000000 in
theorem roomy_none (x : Int) (c : Nat) (w : World) :
    Calls Try.prog 40 #[.slice none 0 c, .int .i64 x] w fun e w' => e = .returned (.slice (some ⟨w.heap.size, 0, none⟩) 0 3) ∧ Rm w' w.heap.size [] [.int .i64 x, .int .i64 x, .int .i64 x] ∧ Below w.heap.size w w' := by
  obtain ⟨i0, hi0, hz0, hz1, hz2⟩ := info3_parts
  obtain ⟨w2, hrun, hown2, hgr2⟩ := run_make_own (P := Try.prog) w w.heap.size 25 3 i0 _ 1 Try.underlying25 hi0 hz0 hz1 .i64 .i64 3 (by rw [hz2]; omega) (by unfold maxLen; omega) (Nat.le_refl _)
  rw [show ((3 : Nat) : Int) = 3 from rfl] at hrun
  have B3 : Hid (Below w.heap.size w w2) := (Below.refl _ _).grown hgr2 (Nat.le_refl _) (fun k hk => by cases hk)
  have hap := append_none hown2 25 none c
  obtain ⟨r3, rm3⟩ := Rm.of (l := []) rfl rfl hown2
  have R3 : Hid _ := rm3
  clear rm3 hown2 hgr2
  go_enter Try.func40, Try.ntmps40
  go_wp2_with fail
  clear hap hrun
  go_loopw [13] (fun z wr => ∃ (k : Nat) (r : List Value), z = .int .i64 k ∧ k ≤ 3 ∧ Rm wr w.heap.size [] r ∧ (∀ i, i < k → r[i]? = some (.int .i64 x)) ∧ Below w.heap.size w wr) (fun z _ => 3 - (intOf z).toNat)
  case atStart => exact ⟨0, r3, rfl, by omega, R3.out, fun i hi => absurd hi (by omega), B3.out⟩
  case round =>
    clear R3 B3
    obtain ⟨k, r, rfl, hk, hr, hx, hb⟩ := hrel
    have HR : Hid _ := hr
    have HX : Hid _ := hx
    have HB : Hid (Below w.heap.size w wr) := hb
    clear hr hx hb
    by_cases hlt : k < 3
    · have hki : (k : Int) < 3 := by omega
      obtain ⟨u, u1, u2, u3⟩ := HR.out.room k hlt
      rw [List.length_nil, Nat.zero_add] at u1 u3
      have hu := HR.out.put k (.int .i64 x)
      rw [List.length_nil, Nat.zero_add] at hu
      have HU : Hid _ := hu
      have H3 : Hid _ := HR.out.three
      clear hu
      go_wp2_with fail
      go_roundw
      case rel =>
        refine ⟨k + 1, r.set k (.int .i64 x), by go_num, by omega, HU.out, fun i hi => ?_, Below.setCell HB.out (by simp) _⟩
        have := H3.out
        rw [List.getElem?_set]
        by_cases e : k = i
        · subst e; rw [if_pos rfl, if_pos (by omega)]
        · rw [if_neg e]; exact HX.out i (by omega)
      case measure => simp [intOf]; omega
    · have hke : k = 3 := by omega
      subst hke
      have HE : Hid (r = [.int .i64 x, .int .i64 x, .int .i64 x]) := by
        have h1 := HR.out.three
        apply List.ext_getElem?
        intro i
        rcases (show i = 0 ∨ i = 1 ∨ i = 2 ∨ 3 ≤ i by omega) with h | h | h | h
        · subst h; exact HX.out 0 (by omega)
        · subst h; exact HX.out 1 (by omega)
        · subst h; exact HX.out 2 (by omega)
        · rw [List.getElem?_eq_none (by omega), List.getElem?_eq_none (by simpa using h)]
      go_wp2_with fail
      go_ret
      exact ⟨rfl, by rw [← HE.out]; exact HR.out, HB.out⟩
set_option maxRecDepth 100000 in
set_option maxHeartbeats 4000000 in
theorem filled_any (g : Nat) (l : List Int) (x : Int) (w : World) (h : Rm w g l [.int .i64 x, .int .i64 x, .int .i64 x]) (_ : l.length ≤ 17592186043904) :
    Calls Try.prog 43 #[.slice (some ⟨g, 0, none⟩) l.length (l.length + 3), .int .i64 x] w fun e w' => e = .returned (.bool true) ∧ Below w.heap.size w w' := by
  have HR : Hid _ := h
  have e1 : (l.length : Int) ≤ (l.length : Int) + 3 := by omega
  clear h
  go_enter Try.func43, Try.ntmps43
  go_wp2_with fail
  go_loopw [14] (fun z wr => ∃ k : Nat, z = .int .i64 k ∧ k ≤ 3 ∧ wr = w) (fun z _ => 3 - (intOf z).toNat)
  case atStart => exact ⟨0, rfl, by omega, rfl⟩
  case round =>
    obtain ⟨k, rfl, hk, rfl⟩ := hrel
    by_cases hlt : k < 3
    · have hki : (k : Int) < 3 := by omega
      obtain ⟨u, u1, u2, u3⟩ := HR.out.room k hlt
      have hux : u = .int .i64 x := by
        rcases (show k = 0 ∨ k = 1 ∨ k = 2 by omega) with rfl | rfl | rfl <;> simpa using u2.symm
      rw [hux] at u1
      clear hux u2 u3
      have hxx : (x != x) = false := by simp
      go_wp2_with fail
      go_roundw
      case rel => exact ⟨k + 1, by go_num, by omega, by first | rfl | trivial⟩
      case measure => simp [intOf]; omega
    · have hke : k = 3 := by omega
      subst hke
      go_wp2_with fail
      go_ret
      exact ⟨rfl, Below.refl _ _⟩
theorem roomy_any (x : Int) (v : Value) (l : List Int) (w : World) (hv : SlI w v l) (hl : l.length ≤ 17592186043904) :
    Calls Try.prog 40 #[v, .int .i64 x] w fun e w' => e = .returned (.slice (some ⟨w.heap.size, 0, none⟩) l.length (l.length + 3)) ∧ Rm w' w.heap.size l [.int .i64 x, .int .i64 x, .int .i64 x] ∧ Below w.heap.size w w' := by
  by_cases h0 : 0 < l.length
  · exact roomy_row x v l w hv h0 hl
  · obtain rfl : l = [] := List.length_eq_zero_iff.1 (by omega)
    obtain ⟨a, c, rfl⟩ := hv.val
    cases a with
    | none => exact roomy_none x c w
    | some ad => exact roomy_some x ad c w
end Go.Proofs.Ytidbbkpgmcheiaa
