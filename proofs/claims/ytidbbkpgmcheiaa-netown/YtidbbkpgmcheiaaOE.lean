/-
  Contracts: roomy, filled, spoil, of edges.
-/
import Derived.Test.YtidbbkpgmcheiaaMA
import Derived.Test.YtidbbkpgmcheiaaER
import Derived.Deep.DeepAppendRoom
namespace Go.Proofs.Ytidbbkpgmcheiaa
open Go.RowKit
open Nm
attribute [local go_sem ↓] Go.wp_at_zero Go.wp_at_succ

/-- Edges with room for three behind them. -/
structure Rm3 (w : World) (g : Nat) (l : List E) (r : List Value) : Prop where
  at_ : w.heap[g]? = some (.cells (flat3 l ++ r).toArray 44 (0, 0))
  nine : r.length = 9
theorem Rm3.lt {w : World} {g : Nat} {l : List E} {r : List Value} (h : Rm3 w g l r) : g < w.heap.size := by
  rcases Nat.lt_or_ge g w.heap.size with hlt | hge
  · exact hlt
  · have := h.at_; rw [Array.getElem?_eq_none hge] at this; cases this
theorem Rm3.below {w w' : World} {g : Nat} {l : List E} {r : List Value} (h : Rm3 w g l r) (hb : Below w.heap.size w w') : Rm3 w' g l r := ⟨(hb.block _ h.lt).trans h.at_, h.nine⟩
theorem Rm3.cell {w : World} {g : Nat} {l : List E} {r : List Value} (h : Rm3 w g l r) (i : Nat) : w.cell? ⟨g, i, none⟩ = (flat3 l ++ r)[i]? ∧ w.frozen? ⟨g, i, none⟩ = false := by
  have h1 := h.at_
  unfold World.cell? World.frozen?
  rw [h1]
  exact ⟨by simp, by simp⟩
theorem Rm3.room {w : World} {g : Nat} {l : List E} {r : List Value} (h : Rm3 w g l r) (i : Nat) (hi : i < 9) : ∃ u, w.cell? ⟨g, l.length * 3 + i, none⟩ = some u ∧ r[i]? = some u ∧ w.frozen? ⟨g, l.length * 3 + i, none⟩ = false := by
  obtain ⟨h1, h2⟩ := h.cell (l.length * 3 + i)
  have h3 := h.nine
  rw [List.getElem?_append_right (by rw [flat3_length]; omega)] at h1
  rw [flat3_length, Nat.add_sub_cancel_left] at h1
  rw [List.getElem?_eq_getElem (by omega)] at h1
  exact ⟨_, h1, List.getElem?_eq_getElem (by omega), h2⟩
theorem Rm3.sl {w : World} {g : Nat} {l : List E} {r : List Value} (h : Rm3 w g l r) : SlE w (.slice (some ⟨g, 0, none⟩) l.length (l.length + 3)) l := by
  refine .row g 0 (l.length + 3) rfl (fun i hi => ?_)
  obtain ⟨f0, f1, f2⟩ := flat3_get l i hi
  have hl := flat3_length l
  rw [Nat.zero_add, (h.cell (i * 3)).1, (h.cell (i * 3 + 1)).1, (h.cell (i * 3 + 2)).1, List.getElem?_append_left (by omega), List.getElem?_append_left (by omega), List.getElem?_append_left (by omega)]
  exact ⟨f0, f1, f2⟩
theorem Rm3.put {w : World} {g : Nat} {l : List E} {r : List Value} (h : Rm3 w g l r) (i : Nat) (x y z : Value) : Rm3 (((w.setCell ⟨g, (l.length + i) * 3, none⟩ x).setCell ⟨g, (l.length + i) * 3 + 1, none⟩ y).setCell ⟨g, (l.length + i) * 3 + 2, none⟩ z) g l (((r.set (i * 3) x).set (i * 3 + 1) y).set (i * 3 + 2) z) := by
  refine ⟨(heap_setCell_same _ _ _ _ _ _ _ (heap_setCell_same _ _ _ _ _ _ _ (heap_setCell_same _ _ _ _ _ _ _ h.at_))).trans ?_, by simpa using h.nine⟩
  have hl := flat3_length l
  congr 2
  rw [List.setIfInBounds_toArray, List.setIfInBounds_toArray, List.setIfInBounds_toArray, List.set_append_right _ _ (by omega), List.set_append_right _ _ (by omega), List.set_append_right _ _ (by omega)]
  rw [hl, show (l.length + i) * 3 - l.length * 3 = i * 3 by omega, show (l.length + i) * 3 + 1 - l.length * 3 = i * 3 + 1 by omega, show (l.length + i) * 3 + 2 - l.length * 3 = i * 3 + 2 by omega]
theorem Rm3.of {w : World} {base n c : Nat} {g : Nat} {l : List E} (hn : n = l.length) (hc : c = l.length + 3) (h : w.ownsRow base 44 3 (.slice (some ⟨g, 0, none⟩) n c) n (flat3 l)) : ∃ r, Rm3 w g l r := by
  subst hn hc
  rcases h.2 with ⟨h1, _⟩ | ⟨g', cap, cur, h1, _, h2, h3, h4, h5, h6⟩
  · cases h1
  · simp only [Value.slice.injEq, Option.some.injEq, Addr.mk.injEq] at h1
    obtain ⟨⟨rfl, -, -⟩, -, rfl⟩ := h1
    refine ⟨cur.toList.drop (l.length * 3), ?_, by simp; omega⟩
    rw [h2, ← h6, List.take_append_drop]
theorem Rm3.grown {w w' : World} {g h : Nat} {l : List E} {r : List Value} (hr : Rm3 w g l r) (hg : w.grownBy w' (some h)) (hne : h ≠ g) : Rm3 w' g l r :=
  ⟨(hg.block g hr.lt (fun e => by have := Option.some.inj e; omega)).trans hr.at_, hr.nine⟩
theorem Es.grown {w w' : World} {base g : Nat} {v : Value} {l : List E} (h : Es w base v l) (hg : w.grownBy w' (some g)) (hlt : g < base) : Es w' base v l := by
  obtain ⟨h1, h2⟩ := h.own
  refine ⟨h1, ?_⟩
  rcases h2 with h2 | ⟨g', cap, cur, h3, h4, h5, h6⟩
  · exact .inl h2
  · have hlt' : g' < w.heap.size := by
      rcases Nat.lt_or_ge g' w.heap.size with hl | hge
      · exact hl
      · rw [Array.getElem?_eq_none hge] at h5; cases h5
    exact .inr ⟨g', cap, cur, h3, h4, by rw [hg.block g' hlt' (fun e => by have := Option.some.inj e; omega)]; exact h5, h6⟩
/-- Edges in a row of their own. -/
structure Sx (w : World) (base : Nat) (v : Value) (l : List E) : Prop where
  is : (v = .slice none 0 0 ∧ l = []) ∨ ∃ G cap, v = .slice (some ⟨G, 0, none⟩) l.length cap ∧ base ≤ G ∧ Er w G l.length (at3 l)
theorem Sx.below {w w' : World} {base : Nat} {v : Value} {l : List E} (h : Sx w base v l) (hb : Below w.heap.size w w') : Sx w' base v l := by
  rcases h.is with h | ⟨G, cap, h1, h2, h3⟩
  · exact ⟨.inl h⟩
  · exact ⟨.inr ⟨G, cap, h1, h2, h3.below hb⟩⟩
theorem Sx.grown {w w' : World} {base g : Nat} {v : Value} {l : List E} (h : Sx w base v l) (hg : w.grownBy w' (some g)) (hlt : g < base) : Sx w' base v l := by
  rcases h.is with h | ⟨G, cap, h1, h2, h3⟩
  · exact ⟨.inl h⟩
  · exact ⟨.inr ⟨G, cap, h1, h2, h3.frame (hg.block G h3.lt (fun e => by have := Option.some.inj e; omega))⟩⟩
theorem Sx.sl {w : World} {base : Nat} {v : Value} {l : List E} (h : Sx w base v l) : SlE w v l := by
  rcases h.is with ⟨rfl, rfl⟩ | ⟨G, cap, rfl, _, h3⟩
  · exact .no none 0 rfl rfl
  · exact h3.sl rfl (fun i _ => rfl)

/-- What stands in the room. -/
def nin (p q s : Int) : List Value := [.int .i64 p, .int .i64 q, .int .i64 s, .int .i64 p, .int .i64 q, .int .i64 s, .int .i64 p, .int .i64 q, .int .i64 s]
structure Fld (r : List Value) (p q s : Int) (k : Nat) : Prop where
  is : ∀ i, i < k → r[i * 3]? = some (.int .i64 p) ∧ r[i * 3 + 1]? = some (.int .i64 q) ∧ r[i * 3 + 2]? = some (.int .i64 s)
theorem Fld.next {r : List Value} {p q s : Int} {k : Nat} (h : Fld r p q s k) (h9 : r.length = 9) (hk : k < 3) : Fld (((r.set (k * 3) (.int .i64 p)).set (k * 3 + 1) (.int .i64 q)).set (k * 3 + 2) (.int .i64 s)) p q s (k + 1) := by
  refine ⟨fun i hi => ?_⟩
  by_cases e : i = k
  · subst e
    refine ⟨?_, ?_, ?_⟩
    · rw [List.getElem?_set_ne (by omega), List.getElem?_set_ne (by omega), List.getElem?_set_self (by omega)]
    · rw [List.getElem?_set_ne (by omega), List.getElem?_set_self (by simp; omega)]
    · rw [List.getElem?_set_self (by simp; omega)]
  · obtain ⟨h1, h2, h3⟩ := h.is i (by omega)
    refine ⟨?_, ?_, ?_⟩
    all_goals rw [List.getElem?_set_ne (by omega), List.getElem?_set_ne (by omega), List.getElem?_set_ne (by omega)]
    · exact h1
    · exact h2
    · exact h3
theorem Fld.all {r : List Value} {p q s : Int} (h : Fld r p q s 3) (h9 : r.length = 9) : r = nin p q s := by
  obtain ⟨a0, a1, a2⟩ := h.is 0 (by omega)
  obtain ⟨b0, b1, b2⟩ := h.is 1 (by omega)
  obtain ⟨c0, c1, c2⟩ := h.is 2 (by omega)
  apply List.ext_getElem?
  intro i
  rcases (show i = 0 ∨ i = 1 ∨ i = 2 ∨ i = 3 ∨ i = 4 ∨ i = 5 ∨ i = 6 ∨ i = 7 ∨ i = 8 ∨ 9 ≤ i by omega) with h | h | h | h | h | h | h | h | h | h
  all_goals first
    | (subst h; first | exact a0 | exact a1 | exact a2 | exact b0 | exact b1 | exact b2 | exact c0 | exact c1 | exact c2)
    | (rw [List.getElem?_eq_none (by omega), List.getElem?_eq_none (by simpa [nin] using h)])

set_option maxRecDepth 100000 in
set_option maxHeartbeats 8000000 in
theorem roomy3_row (p q s : Int) (v : Value) (l : List E) (w : World) (hv : SlE w v l) (h0 : 0 < l.length) (hl : l.length ≤ 5864062014634) :
    Calls Try.prog 39 #[v, .agg #[.int .i64 p, .int .i64 q, .int .i64 s]] w fun e w' => e = .returned (.slice (some ⟨w.heap.size + 1, 0, none⟩) l.length (l.length + 3)) ∧ Rm3 w' (w.heap.size + 1) l (nin p q s) ∧ Below w.heap.size w w' := by
  obtain ⟨g, o, c, rfl, hcl⟩ := hv.some' h0
  have HCL : Hid _ := hcl
  have X0 : Hid _ := box3_new w p q (.int .i64 s) 44
  have B0 : Hid (Below w.heap.size w (w.alloc (.cells #[.int .i64 p, .int .i64 q, .int .i64 s] 44))) := balloc (Below.refl _ _) _
  have WZ : Hid ((w.alloc (.cells #[.int .i64 p, .int .i64 q, .int .i64 s] 44)).heap.size = w.heap.size + 1) := by unfold Hid; simp
  obtain ⟨i0, hi0, hz0, hz1, hz2⟩ := info47_parts
  have HNA : Hid (∀ w', Below w.heap.size w w' → ∀ (j : Nat) (u : Value), (flat3 l)[j]? = some u → w'.cell? ((⟨g, o, none⟩ : Addr).add j) = some u) := fun w' hb => news3 (fun i hi => ⟨kept hb (HCL.out i hi).1, kept hb (HCL.out i hi).2.1, kept hb (HCL.out i hi).2.2⟩)
  obtain ⟨cc, hcc⟩ : ∃ cc : Nat, cc = l.length + 3 := ⟨_, rfl⟩
  have hci : (l.length : Int) + 3 = (cc : Int) := by omega
  have HCC : Hid _ := hcc
  have hcle : cc ≤ 5864062014637 := by omega
  have hfl := flat3_length l
  have ON : Hid _ := flat3_one l
  clear hv hcl hcc
  rw [← HCC.out]
  obtain ⟨w2, hrun, hown2, hgr2⟩ := run_make_own (P := Try.prog) (w.alloc (.cells #[.int .i64 p, .int .i64 q, .int .i64 s] 44)) (w.alloc (.cells #[.int .i64 p, .int .i64 q, .int .i64 s] 44)).heap.size 22 44 i0 _ 3 Try.underlying22 hi0 hz0 hz1 .i64 .i64 cc (by rw [hz2]; omega) (by unfold maxLen; omega) (Nat.le_refl _)
  have B2 : Hid (Below (w.alloc (.cells #[.int .i64 p, .int .i64 q, .int .i64 s] 44)).heap.size (w.alloc (.cells #[.int .i64 p, .int .i64 q, .int .i64 s] 44)) w2) := (Below.refl _ _).grown hgr2 (Nat.le_refl _) (fun k hk => by cases hk)
  rw [WZ.out] at hrun hown2
  clear hgr2
  go_enter Try.func39, Try.ntmps39
  go_wp2_with (first
    | (at_builtin; refine wpList_append_own_spare _ rfl _ _ _ rfl (w.heap.size + 1) 44 i0 3 Try.underlying22 hi0 hz1 (w.heap.size + 1) 0 cc [] rfl hown2 ⟨g, o, none⟩ l.length c (flat3 l) rfl hfl (HNA.out w2 (bthen B0.out B2.out)) ON.out (by have := HCC.out; omega) ?_; intro w3 hown3 hgr3; rw [Nat.zero_add, List.nil_append] at hown3; have B3 : Hid (Below (w.alloc (.cells #[.int .i64 p, .int .i64 q, .int .i64 s] 44)).heap.size (w.alloc (.cells #[.int .i64 p, .int .i64 q, .int .i64 s] 44)) w3) := (by exact B2.out.grown hgr3 B2.out.size (fun k hk => by cases hk; have := WZ.out; omega)))
    | go_in)
  generalize (w.alloc (.cells #[.int .i64 p, .int .i64 q, .int .i64 s] 44)) = W0 at *
  obtain ⟨r3, rm3⟩ := Rm3.of rfl HCC.out hown3
  have R3 : Hid _ := rm3
  have HCL2 : Hid _ := hci
  clear rm3 hown2 hown3 hgr3 hrun HNA HCL hci hfl
  go_loopw [13] (fun z wr => ∃ (k : Nat) (r : List Value), z = .int .i64 k ∧ k ≤ 3 ∧ Rm3 wr (w.heap.size + 1) l r ∧ Fld r p q s k ∧ Below W0.heap.size W0 wr) (fun z _ => 3 - (intOf z).toNat)
  case atStart => exact ⟨0, r3, rfl, by omega, R3.out, ⟨fun i hi => absurd hi (by omega)⟩, B3.out⟩
  case round =>
    clear R3 B3
    obtain ⟨k, r, rfl, hk, hr, hx, hb⟩ := hrel
    have HR : Hid _ := hr
    have HX : Hid _ := hx
    have HB : Hid (Below W0.heap.size W0 wr) := hb
    clear hr hx hb
    have hci := HCL2.out
    by_cases hlt : k < 3
    · have hki : (k : Int) < 3 := by omega
      obtain ⟨u, u1, u2, u3⟩ := HR.out.room (k * 3) (by omega)
      obtain ⟨v, v1, v2, v3⟩ := HR.out.room (k * 3 + 1) (by omega)
      obtain ⟨t, t1, t2, t3⟩ := HR.out.room (k * 3 + 2) (by omega)
      rw [show l.length * 3 + k * 3 = (l.length + k) * 3 by omega] at u1 u3
      rw [show l.length * 3 + (k * 3 + 1) = (l.length + k) * 3 + 1 by omega] at v1 v3
      rw [show l.length * 3 + (k * 3 + 2) = (l.length + k) * 3 + 2 by omega] at t1 t3
      have hidx : (l.length : Int) + (k : Int) < (cc : Int) := by omega
      have hw1 : IntKind.i64.wrap ((l.length : Int) + 3) = (cc : Int) := by rw [IntKind.wrap_i64]; omega
      have hc0 : (0 : Int) ≤ (cc : Int) := by omega
      have hc1 : (cc : Int) ≤ (cc : Int) := by omega
      have hw5 : IntKind.i64.wrap (cc : Int) = (cc : Int) := by rw [IntKind.wrap_i64]; omega
      have hcz : ¬ cc = 0 := by omega
      have hcz2 : (cc == 0) = false := by simp; omega
      have HU : Hid _ := HR.out.put k (.int .i64 p) (.int .i64 q) (.int .i64 s)
      have HF : Hid _ := HX.out.next HR.out.nine hlt
      obtain ⟨x0, x1, x2⟩ := X0.out.below HB.out
      obtain ⟨ix, hix⟩ : ∃ ix, l.length + k = ix := ⟨_, rfl⟩
      rw [hix] at u1 u3 v1 v3 t1 t3 HU
      have hw2 : IntKind.i64.wrap ((l.length : Int) + (k : Int)) = (ix : Int) := by rw [IntKind.wrap_i64]; omega
      have hix0 : (ix : Int) < (cc : Int) := by omega
      clear hix hidx
      have BX : Hid (Below W0.heap.size W0 (((wr.setCell ⟨w.heap.size + 1, ix * 3, none⟩ (.int .i64 p)).setCell ⟨w.heap.size + 1, ix * 3 + 1, none⟩ (.int .i64 q)).setCell ⟨w.heap.size + 1, ix * 3 + 2, none⟩ (.int .i64 s)).drew) := Below.drew (Below.setCell (Below.setCell (Below.setCell HB.out (by have := WZ.out; simp; omega) _) (by have := WZ.out; simp; omega) _) (by have := WZ.out; simp; omega) _)
      have KEEP : Hid _ := X0.out.below BX.out
      have KEEP2 : Hid ((((wr.setCell ⟨w.heap.size + 1, ix * 3, none⟩ (.int .i64 p)).setCell ⟨w.heap.size + 1, ix * 3 + 1, none⟩ (.int .i64 q)).setCell ⟨w.heap.size + 1, ix * 3 + 2, none⟩ (.int .i64 s)).drew.cell? ⟨w.heap.size, 0, none⟩ = some (.int .i64 p) ∧ (((wr.setCell ⟨w.heap.size + 1, ix * 3, none⟩ (.int .i64 p)).setCell ⟨w.heap.size + 1, ix * 3 + 1, none⟩ (.int .i64 q)).setCell ⟨w.heap.size + 1, ix * 3 + 2, none⟩ (.int .i64 s)).drew.cell? ⟨w.heap.size, 1, none⟩ = some (.int .i64 q) ∧ (((wr.setCell ⟨w.heap.size + 1, ix * 3, none⟩ (.int .i64 p)).setCell ⟨w.heap.size + 1, ix * 3 + 1, none⟩ (.int .i64 q)).setCell ⟨w.heap.size + 1, ix * 3 + 2, none⟩ (.int .i64 s)).drew.cell? ⟨w.heap.size, 2, none⟩ = some (.int .i64 s)) := by
        obtain ⟨k0, k1, k2⟩ := KEEP.out
        exact ⟨k0, k1, k2⟩
      go_wp2_with fail
      go_region_held3 (fun w' => w'.cell? ⟨w.heap.size, 0, none⟩ = some (.int .i64 p) ∧ w'.cell? ⟨w.heap.size, 1, none⟩ = some (.int .i64 q) ∧ w'.cell? ⟨w.heap.size, 2, none⟩ = some (.int .i64 s)) (first | exact KEEP2.out | go_keep) (fail)
      all_goals
        go_wp2_with fail
        go_roundw
        case rel => exact ⟨k + 1, _, by go_num, by omega, HU.out.below (Below.drew (Below.refl _ _)), HF.out, BX.out⟩
        case measure => simp [intOf]; omega
    · have hke : k = 3 := by omega
      subst hke
      have HE : Hid _ := HX.out.all HR.out.nine
      go_wp2_with fail
      go_ret
      exact ⟨rfl, by rw [← HE.out]; exact HR.out, bthen B0.out HB.out⟩
set_option maxRecDepth 100000 in
set_option maxHeartbeats 8000000 in
theorem roomy3_some (p q s : Int) (ad : Addr) (c : Nat) (w : World) :
    Calls Try.prog 39 #[.slice (some ad) 0 c, .agg #[.int .i64 p, .int .i64 q, .int .i64 s]] w fun e w' => e = .returned (.slice (some ⟨w.heap.size + 1, 0, none⟩) 0 3) ∧ Rm3 w' (w.heap.size + 1) [] (nin p q s) ∧ Below w.heap.size w w' := by
  have X0 : Hid _ := box3_new w p q (.int .i64 s) 44
  have B0 : Hid (Below w.heap.size w (w.alloc (.cells #[.int .i64 p, .int .i64 q, .int .i64 s] 44))) := balloc (Below.refl _ _) _
  have WZ : Hid ((w.alloc (.cells #[.int .i64 p, .int .i64 q, .int .i64 s] 44)).heap.size = w.heap.size + 1) := by unfold Hid; simp
  obtain ⟨i0, hi0, hz0, hz1, hz2⟩ := info47_parts
  obtain ⟨w2, hrun, hown2, hgr2⟩ := run_make_own (P := Try.prog) (w.alloc (.cells #[.int .i64 p, .int .i64 q, .int .i64 s] 44)) (w.alloc (.cells #[.int .i64 p, .int .i64 q, .int .i64 s] 44)).heap.size 22 44 i0 _ 3 Try.underlying22 hi0 hz0 hz1 .i64 .i64 3 (by rw [hz2]; omega) (by unfold maxLen; omega) (Nat.le_refl _)
  rw [show ((3 : Nat) : Int) = 3 from rfl] at hrun
  have B2 : Hid (Below (w.alloc (.cells #[.int .i64 p, .int .i64 q, .int .i64 s] 44)).heap.size (w.alloc (.cells #[.int .i64 p, .int .i64 q, .int .i64 s] 44)) w2) := (Below.refl _ _).grown hgr2 (Nat.le_refl _) (fun k hk => by cases hk)
  rw [WZ.out] at hrun hown2
  clear hgr2
  go_enter Try.func39, Try.ntmps39
  go_wp2_with (first
    | (at_builtin; refine wpList_append_own_spare _ rfl _ _ _ rfl (w.heap.size + 1) 44 i0 3 Try.underlying22 hi0 hz1 (w.heap.size + 1) 0 3 [] rfl hown2 ad 0 c [] rfl (by simp) (by simp) (by simp) (by omega) ?_; intro w3 hown3 hgr3; rw [Nat.zero_add, List.nil_append] at hown3; have B3 : Hid (Below (w.alloc (.cells #[.int .i64 p, .int .i64 q, .int .i64 s] 44)).heap.size (w.alloc (.cells #[.int .i64 p, .int .i64 q, .int .i64 s] 44)) w3) := (by exact B2.out.grown hgr3 B2.out.size (fun k hk => by cases hk; have := WZ.out; omega)))
    | go_in)
  generalize (w.alloc (.cells #[.int .i64 p, .int .i64 q, .int .i64 s] 44)) = W0 at *
  obtain ⟨r3, rm3⟩ := Rm3.of (l := []) rfl rfl hown3
  have R3 : Hid _ := rm3
  clear rm3 hown2 hown3 hgr3 hrun
  go_loopw [13] (fun z wr => ∃ (k : Nat) (r : List Value), z = .int .i64 k ∧ k ≤ 3 ∧ Rm3 wr (w.heap.size + 1) [] r ∧ Fld r p q s k ∧ Below W0.heap.size W0 wr) (fun z _ => 3 - (intOf z).toNat)
  case atStart => exact ⟨0, r3, rfl, by omega, R3.out, ⟨fun i hi => absurd hi (by omega)⟩, B3.out⟩
  case round =>
    clear R3 B3
    obtain ⟨k, r, rfl, hk, hr, hx, hb⟩ := hrel
    have HR : Hid _ := hr
    have HX : Hid _ := hx
    have HB : Hid (Below W0.heap.size W0 wr) := hb
    clear hr hx hb
    by_cases hlt : k < 3
    · have hki : (k : Int) < 3 := by omega
      obtain ⟨u, u1, u2, u3⟩ := HR.out.room (k * 3) (by omega)
      obtain ⟨v, v1, v2, v3⟩ := HR.out.room (k * 3 + 1) (by omega)
      obtain ⟨t, t1, t2, t3⟩ := HR.out.room (k * 3 + 2) (by omega)
      rw [show (([] : List E)).length * 3 + k * 3 = ((([] : List E)).length + k) * 3 by omega] at u1 u3
      rw [show (([] : List E)).length * 3 + (k * 3 + 1) = ((([] : List E)).length + k) * 3 + 1 by omega] at v1 v3
      rw [show (([] : List E)).length * 3 + (k * 3 + 2) = ((([] : List E)).length + k) * 3 + 2 by omega] at t1 t3
      have hw1 : IntKind.i64.wrap ((0 : Int) + 3) = 3 := by rw [IntKind.wrap_i64]; omega
      have hw2 : IntKind.i64.wrap ((0 : Int) + (k : Int)) = (k : Int) := by rw [IntKind.wrap_i64]; omega
      have hw3 : IntKind.i64.wrap (k : Int) = (k : Int) := by rw [IntKind.wrap_i64]; omega
      have hw4 : IntKind.i64.wrap (3 : Int) = 3 := by rw [IntKind.wrap_i64]; omega
      have HU : Hid _ := HR.out.put k (.int .i64 p) (.int .i64 q) (.int .i64 s)
      have HF : Hid _ := HX.out.next HR.out.nine hlt
      obtain ⟨x0, x1, x2⟩ := X0.out.below HB.out
      rw [List.length_nil, Nat.zero_add] at u1 u3 v1 v3 t1 t3 HU
      have BX : Hid (Below W0.heap.size W0 (((wr.setCell ⟨w.heap.size + 1, k * 3, none⟩ (.int .i64 p)).setCell ⟨w.heap.size + 1, k * 3 + 1, none⟩ (.int .i64 q)).setCell ⟨w.heap.size + 1, k * 3 + 2, none⟩ (.int .i64 s)).drew) := Below.drew (Below.setCell (Below.setCell (Below.setCell HB.out (by have := WZ.out; simp; omega) _) (by have := WZ.out; simp; omega) _) (by have := WZ.out; simp; omega) _)
      have KEEP : Hid _ := X0.out.below BX.out
      have KEEP2 : Hid ((((wr.setCell ⟨w.heap.size + 1, k * 3, none⟩ (.int .i64 p)).setCell ⟨w.heap.size + 1, k * 3 + 1, none⟩ (.int .i64 q)).setCell ⟨w.heap.size + 1, k * 3 + 2, none⟩ (.int .i64 s)).drew.cell? ⟨w.heap.size, 0, none⟩ = some (.int .i64 p) ∧ (((wr.setCell ⟨w.heap.size + 1, k * 3, none⟩ (.int .i64 p)).setCell ⟨w.heap.size + 1, k * 3 + 1, none⟩ (.int .i64 q)).setCell ⟨w.heap.size + 1, k * 3 + 2, none⟩ (.int .i64 s)).drew.cell? ⟨w.heap.size, 1, none⟩ = some (.int .i64 q) ∧ (((wr.setCell ⟨w.heap.size + 1, k * 3, none⟩ (.int .i64 p)).setCell ⟨w.heap.size + 1, k * 3 + 1, none⟩ (.int .i64 q)).setCell ⟨w.heap.size + 1, k * 3 + 2, none⟩ (.int .i64 s)).drew.cell? ⟨w.heap.size, 2, none⟩ = some (.int .i64 s)) := by
        obtain ⟨k0, k1, k2⟩ := KEEP.out
        exact ⟨k0, k1, k2⟩
      go_wp2_with fail
      go_region_held3 (fun w' => w'.cell? ⟨w.heap.size, 0, none⟩ = some (.int .i64 p) ∧ w'.cell? ⟨w.heap.size, 1, none⟩ = some (.int .i64 q) ∧ w'.cell? ⟨w.heap.size, 2, none⟩ = some (.int .i64 s)) (first | exact KEEP2.out | go_keep) (fail)
      all_goals
        go_wp2_with fail
        go_roundw
        case rel => exact ⟨k + 1, _, by go_num, by omega, HU.out.below (Below.drew (Below.refl _ _)), HF.out, BX.out⟩
        case measure => simp [intOf]; omega
    · have hke : k = 3 := by omega
      subst hke
      have HE : Hid _ := HX.out.all HR.out.nine
      go_wp2_with fail
      go_ret
      exact ⟨rfl, by rw [← HE.out]; exact HR.out, bthen B0.out HB.out⟩
set_option maxRecDepth 100000 in
set_option maxHeartbeats 8000000 in
theorem roomy3_none (p q s : Int) (c : Nat) (w : World) :
    Calls Try.prog 39 #[.slice none 0 c, .agg #[.int .i64 p, .int .i64 q, .int .i64 s]] w fun e w' => e = .returned (.slice (some ⟨w.heap.size + 1, 0, none⟩) 0 3) ∧ Rm3 w' (w.heap.size + 1) [] (nin p q s) ∧ Below w.heap.size w w' := by
  have X0 : Hid _ := box3_new w p q (.int .i64 s) 44
  have B0 : Hid (Below w.heap.size w (w.alloc (.cells #[.int .i64 p, .int .i64 q, .int .i64 s] 44))) := balloc (Below.refl _ _) _
  have WZ : Hid ((w.alloc (.cells #[.int .i64 p, .int .i64 q, .int .i64 s] 44)).heap.size = w.heap.size + 1) := by unfold Hid; simp
  obtain ⟨i0, hi0, hz0, hz1, hz2⟩ := info47_parts
  obtain ⟨w2, hrun, hown2, hgr2⟩ := run_make_own (P := Try.prog) (w.alloc (.cells #[.int .i64 p, .int .i64 q, .int .i64 s] 44)) (w.alloc (.cells #[.int .i64 p, .int .i64 q, .int .i64 s] 44)).heap.size 22 44 i0 _ 3 Try.underlying22 hi0 hz0 hz1 .i64 .i64 3 (by rw [hz2]; omega) (by unfold maxLen; omega) (Nat.le_refl _)
  rw [show ((3 : Nat) : Int) = 3 from rfl] at hrun
  have B2 : Hid (Below (w.alloc (.cells #[.int .i64 p, .int .i64 q, .int .i64 s] 44)).heap.size (w.alloc (.cells #[.int .i64 p, .int .i64 q, .int .i64 s] 44)) w2) := (Below.refl _ _).grown hgr2 (Nat.le_refl _) (fun k hk => by cases hk)
  rw [WZ.out] at hrun hown2
  clear hgr2
  have hap := run_append_nothing (c := c) hown2 22 none
  obtain ⟨r3, rm3⟩ := Rm3.of (l := []) rfl rfl hown2
  have R3 : Hid _ := rm3
  have B3 : Hid _ := B2.out
  clear rm3 hown2 B2
  go_enter Try.func39, Try.ntmps39
  go_wp2_with fail
  clear hap hrun
  generalize (w.alloc (.cells #[.int .i64 p, .int .i64 q, .int .i64 s] 44)) = W0 at *
  go_loopw [13] (fun z wr => ∃ (k : Nat) (r : List Value), z = .int .i64 k ∧ k ≤ 3 ∧ Rm3 wr (w.heap.size + 1) [] r ∧ Fld r p q s k ∧ Below W0.heap.size W0 wr) (fun z _ => 3 - (intOf z).toNat)
  case atStart => exact ⟨0, r3, rfl, by omega, R3.out, ⟨fun i hi => absurd hi (by omega)⟩, B3.out⟩
  case round =>
    clear R3 B3
    obtain ⟨k, r, rfl, hk, hr, hx, hb⟩ := hrel
    have HR : Hid _ := hr
    have HX : Hid _ := hx
    have HB : Hid (Below W0.heap.size W0 wr) := hb
    clear hr hx hb
    by_cases hlt : k < 3
    · have hki : (k : Int) < 3 := by omega
      obtain ⟨u, u1, u2, u3⟩ := HR.out.room (k * 3) (by omega)
      obtain ⟨v, v1, v2, v3⟩ := HR.out.room (k * 3 + 1) (by omega)
      obtain ⟨t, t1, t2, t3⟩ := HR.out.room (k * 3 + 2) (by omega)
      rw [show (([] : List E)).length * 3 + k * 3 = ((([] : List E)).length + k) * 3 by omega] at u1 u3
      rw [show (([] : List E)).length * 3 + (k * 3 + 1) = ((([] : List E)).length + k) * 3 + 1 by omega] at v1 v3
      rw [show (([] : List E)).length * 3 + (k * 3 + 2) = ((([] : List E)).length + k) * 3 + 2 by omega] at t1 t3
      have hw1 : IntKind.i64.wrap ((0 : Int) + 3) = 3 := by rw [IntKind.wrap_i64]; omega
      have hw2 : IntKind.i64.wrap ((0 : Int) + (k : Int)) = (k : Int) := by rw [IntKind.wrap_i64]; omega
      have hw3 : IntKind.i64.wrap (k : Int) = (k : Int) := by rw [IntKind.wrap_i64]; omega
      have hw4 : IntKind.i64.wrap (3 : Int) = 3 := by rw [IntKind.wrap_i64]; omega
      have HU : Hid _ := HR.out.put k (.int .i64 p) (.int .i64 q) (.int .i64 s)
      have HF : Hid _ := HX.out.next HR.out.nine hlt
      obtain ⟨x0, x1, x2⟩ := X0.out.below HB.out
      rw [List.length_nil, Nat.zero_add] at u1 u3 v1 v3 t1 t3 HU
      have BX : Hid (Below W0.heap.size W0 (((wr.setCell ⟨w.heap.size + 1, k * 3, none⟩ (.int .i64 p)).setCell ⟨w.heap.size + 1, k * 3 + 1, none⟩ (.int .i64 q)).setCell ⟨w.heap.size + 1, k * 3 + 2, none⟩ (.int .i64 s)).drew) := Below.drew (Below.setCell (Below.setCell (Below.setCell HB.out (by have := WZ.out; simp; omega) _) (by have := WZ.out; simp; omega) _) (by have := WZ.out; simp; omega) _)
      have KEEP : Hid _ := X0.out.below BX.out
      have KEEP2 : Hid ((((wr.setCell ⟨w.heap.size + 1, k * 3, none⟩ (.int .i64 p)).setCell ⟨w.heap.size + 1, k * 3 + 1, none⟩ (.int .i64 q)).setCell ⟨w.heap.size + 1, k * 3 + 2, none⟩ (.int .i64 s)).drew.cell? ⟨w.heap.size, 0, none⟩ = some (.int .i64 p) ∧ (((wr.setCell ⟨w.heap.size + 1, k * 3, none⟩ (.int .i64 p)).setCell ⟨w.heap.size + 1, k * 3 + 1, none⟩ (.int .i64 q)).setCell ⟨w.heap.size + 1, k * 3 + 2, none⟩ (.int .i64 s)).drew.cell? ⟨w.heap.size, 1, none⟩ = some (.int .i64 q) ∧ (((wr.setCell ⟨w.heap.size + 1, k * 3, none⟩ (.int .i64 p)).setCell ⟨w.heap.size + 1, k * 3 + 1, none⟩ (.int .i64 q)).setCell ⟨w.heap.size + 1, k * 3 + 2, none⟩ (.int .i64 s)).drew.cell? ⟨w.heap.size, 2, none⟩ = some (.int .i64 s)) := by
        obtain ⟨k0, k1, k2⟩ := KEEP.out
        exact ⟨k0, k1, k2⟩
      go_wp2_with fail
      go_region_held3 (fun w' => w'.cell? ⟨w.heap.size, 0, none⟩ = some (.int .i64 p) ∧ w'.cell? ⟨w.heap.size, 1, none⟩ = some (.int .i64 q) ∧ w'.cell? ⟨w.heap.size, 2, none⟩ = some (.int .i64 s)) (first | exact KEEP2.out | go_keep) (fail)
      all_goals
        go_wp2_with fail
        go_roundw
        case rel => exact ⟨k + 1, _, by go_num, by omega, HU.out.below (Below.drew (Below.refl _ _)), HF.out, BX.out⟩
        case measure => simp [intOf]; omega
    · have hke : k = 3 := by omega
      subst hke
      have HE : Hid _ := HX.out.all HR.out.nine
      go_wp2_with fail
      go_ret
      exact ⟨rfl, by rw [← HE.out]; exact HR.out, bthen B0.out HB.out⟩
theorem roomy3_any (p q s : Int) (v : Value) (l : List E) (w : World) (hv : SlE w v l) (hl : l.length ≤ 5864062014634) :
    Calls Try.prog 39 #[v, .agg #[.int .i64 p, .int .i64 q, .int .i64 s]] w fun e w' => e = .returned (.slice (some ⟨w.heap.size + 1, 0, none⟩) l.length (l.length + 3)) ∧ Rm3 w' (w.heap.size + 1) l (nin p q s) ∧ Below w.heap.size w w' := by
  by_cases h0 : 0 < l.length
  · exact roomy3_row p q s v l w hv h0 hl
  · obtain rfl : l = [] := List.length_eq_zero_iff.1 (by omega)
    obtain ⟨a, c, rfl⟩ := hv.val
    cases a with
    | none => exact roomy3_none p q s c w
    | some ad => exact roomy3_some p q s ad c w
set_option maxRecDepth 100000 in
set_option maxHeartbeats 8000000 in
theorem filled3_any (g : Nat) (l : List E) (p q s : Int) (w : World) (h : Rm3 w g l (nin p q s)) (_ : l.length ≤ 5864062014634) :
    Calls Try.prog 42 #[.slice (some ⟨g, 0, none⟩) l.length (l.length + 3), .agg #[.int .i64 p, .int .i64 q, .int .i64 s]] w fun e w' => e = .returned (.bool true) ∧ Below w.heap.size w w' := by
  have HR : Hid _ := h
  have X0 : Hid _ := box3_new w p q (.int .i64 s) 44
  have B0 : Hid (Below w.heap.size w (w.alloc (.cells #[.int .i64 p, .int .i64 q, .int .i64 s] 44))) := balloc (Below.refl _ _) _
  have WZ0 : Hid ((w.alloc (.cells #[.int .i64 p, .int .i64 q, .int .i64 s] 44)).heap.size = w.heap.size + 1) := by unfold Hid; simp
  have e1 : (l.length : Int) ≤ (l.length : Int) + 3 := by omega
  clear h WZ0
  go_enter Try.func42, Try.ntmps42
  go_wp2_with fail
  generalize (w.alloc (.cells #[.int .i64 p, .int .i64 q, .int .i64 s] 44)) = W0 at *
  go_loopw [14] (fun z wr => ∃ k : Nat, z = .int .i64 k ∧ k ≤ 3 ∧ Below W0.heap.size W0 wr) (fun z _ => 3 - (intOf z).toNat)
  case atStart => exact ⟨0, rfl, by omega, Below.refl _ _⟩
  case round =>
    obtain ⟨k, rfl, hk, hb⟩ := hrel
    have HB : Hid (Below W0.heap.size W0 wr) := hb
    have BR : Hid (Below w.heap.size w wr) := bthen B0.out hb
    clear hb
    by_cases hlt : k < 3
    · have hki : (k : Int) < 3 := by omega
      obtain ⟨u, u1, u2, _⟩ := (HR.out.below BR.out).room (k * 3) (by omega)
      obtain ⟨v, v1, v2, _⟩ := (HR.out.below BR.out).room (k * 3 + 1) (by omega)
      obtain ⟨t, t1, t2, _⟩ := (HR.out.below BR.out).room (k * 3 + 2) (by omega)
      have hux : u = .int .i64 p ∧ v = .int .i64 q ∧ t = .int .i64 s := by
        rcases (show k = 0 ∨ k = 1 ∨ k = 2 by omega) with rfl | rfl | rfl <;> exact ⟨by simpa [nin] using u2.symm, by simpa [nin] using v2.symm, by simpa [nin] using t2.symm⟩
      obtain ⟨rfl, rfl, rfl⟩ := hux
      rw [← Nat.add_assoc] at v1 t1
      clear u2 v2 t2
      obtain ⟨x0, x1, x2⟩ := (X0.out.below HB.out).below (balloc (Below.refl _ _) (.cells #[.int .i64 p, .int .i64 q, .int .i64 s] 44))
      obtain ⟨y0, y1, y2⟩ := box3_new wr p q (.int .i64 s) 44
      have HB2 : Hid (Below W0.heap.size W0 (wr.alloc (.cells #[.int .i64 p, .int .i64 q, .int .i64 s] 44))) := balloc HB.out _
      go_wp2_with fail
      go_roundw
      case rel => exact ⟨k + 1, by go_num, by omega, HB2.out⟩
      case measure => simp [intOf]; omega
    · have hke : k = 3 := by omega
      subst hke
      go_wp2_with fail
      go_ret
      exact ⟨rfl, BR.out⟩
end Go.Proofs.Ytidbbkpgmcheiaa
