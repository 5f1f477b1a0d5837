/-
  Pops in memory: rows of them, and a heap object; the order of two pops. Contract: rise. Contract: Push. Contract: New.
-/
import Derived.Test.YtefikbjjdldomaaBA
import Derived.Test.YtefikbjjdldomaaMx
namespace Go.Proofs.Ytefikbjjdldomaa.Jw
open Go.RowKit
open Jp

theorem sooner_any (p q : T3) (w : World) :
    Calls Try.prog 84 #[.agg #[.int .i64 p.1, .int .i64 p.2.1, .int .i64 p.2.2], .agg #[.int .i64 q.1, .int .i64 q.2.1, .int .i64 q.2.2]] w fun e w' => e = .returned (.bool (ltb p q)) ∧ Below w.heap.size w w' := by
  obtain ⟨a, b, x⟩ := p
  obtain ⟨c, d, y⟩ := q
  by_cases h1 : a = c
  · have h1' : (a == c) = true := by simp [h1]
    by_cases h2 : b = d
    · have h2' : (b == d) = true := by simp [h2]
      have HL : Hid (decide (x < y) = ltb (a, b, x) (c, d, y)) := by
        unfold Hid ltb; refine decide_eq_decide.2 ?_; simp only; omega
      clear h1 h2
      go_enter Try.func84, Try.ntmps84
      go_wp2
      go_ret
      exact ⟨ret_bool HL.out, by repeat (first | exact Below.refl _ _ | refine balloc ?_ _ )⟩
    · have h2' : (b == d) = false := by simp [h2]
      have HL : Hid (decide (b < d) = ltb (a, b, x) (c, d, y)) := by
        unfold Hid ltb; refine decide_eq_decide.2 ?_; simp only; omega
      clear h1 h2
      go_enter Try.func84, Try.ntmps84
      go_wp2
      go_ret
      exact ⟨ret_bool HL.out, by repeat (first | exact Below.refl _ _ | refine balloc ?_ _ )⟩
  · have h1' : (a == c) = false := by simp [h1]
    have HL : Hid (decide (a < c) = ltb (a, b, x) (c, d, y)) := by
      unfold Hid ltb; refine decide_eq_decide.2 ?_; simp only; omega
    clear h1
    go_enter Try.func84, Try.ntmps84
    go_wp2
    go_ret
    exact ⟨ret_bool HL.out, by repeat (first | exact Below.refl _ _ | refine balloc ?_ _ )⟩
/-- The cells of a list of pops, one behind the other. -/
def flat : List (T3) → List Value
  | [] => []
  | p :: r => .int .i64 p.1 :: .int .i64 p.2.1 :: .int .i64 p.2.2 :: flat r
theorem flat_length (ps : List (T3)) : (flat ps).length = ps.length * 3 := by
  induction ps with
  | nil => rfl
  | cons p r ih => simp [flat, ih]; omega
theorem flat_append (a b : List (T3)) : flat (a ++ b) = flat a ++ flat b := by
  induction a with
  | nil => rfl
  | cons p r ih => simp [flat, ih]
theorem flat_get (ps : List (T3)) (i : Nat) (h : i < ps.length) : (flat ps)[i * 3]? = some (.int .i64 (at' ps i).1) ∧ (flat ps)[i * 3 + 1]? = some (.int .i64 (at' ps i).2.1) ∧ (flat ps)[i * 3 + 2]? = some (.int .i64 (at' ps i).2.2) := by
  induction ps generalizing i with
  | nil => simp at h
  | cons p r ih =>
    cases i with
    | zero => exact ⟨rfl, rfl, rfl⟩
    | succ i =>
      have := ih i (by simpa using h)
      have e1 : (i + 1) * 3 = i * 3 + 1 + 1 + 1 := by omega
      have e2 : (i + 1) * 3 + 1 = i * 3 + 1 + 1 + 1 + 1 := by omega
      have e3 : (i + 1) * 3 + 2 = i * 3 + 2 + 1 + 1 + 1 := by omega
      rw [e3, e2, e1]
      simp only [flat, List.getElem?_cons_succ]
      exact this
theorem flat_set (ps : List (T3)) (i : Nat) (x y z : Int) : (((flat ps).set (i * 3) (.int .i64 x)).set (i * 3 + 1) (.int .i64 y)).set (i * 3 + 2) (.int .i64 z) = flat (ps.set i (x, y, z)) := by
  induction ps generalizing i with
  | nil => rfl
  | cons p r ih =>
    cases i with
    | zero => rfl
    | succ i =>
      have e1 : (i + 1) * 3 = i * 3 + 1 + 1 + 1 := by omega
      have e2 : (i + 1) * 3 + 1 = i * 3 + 1 + 1 + 1 + 1 := by omega
      have e3 : (i + 1) * 3 + 2 = i * 3 + 2 + 1 + 1 + 1 := by omega
      rw [e3, e2, e1]
      simp only [flat, List.set_cons_succ]
      rw [ih]
/-- A row of pops that the calls made for themselves: block g, room for cap, the first of it the pops ps. -/
def Row (w : World) (g cap : Nat) (ps : List (T3)) : Prop :=
  ∃ cur : Array Value, w.heap[g]? = some (.cells cur 113 (0, 0)) ∧ ps.length ≤ cap ∧ cap ≤ maxLen ∧ cur.size = cap * 3 ∧ cur.toList.take (ps.length * 3) = flat ps
theorem Row.owns {w : World} {g cap base : Nat} {ps : List (T3)} (h : Row w g cap ps) (hb : base ≤ g) : w.ownsRow base 113 3 (.slice (some ⟨g, 0, none⟩) ps.length cap) ps.length (flat ps) := by
  obtain ⟨cur, h1, h2, h3, h4, h5⟩ := h
  exact ⟨flat_length ps, .inr ⟨g, cap, cur, rfl, hb, h1, h2, h3, h4, h5⟩⟩
theorem Row.of_owns {w : World} {g cap base n : Nat} {ps : List (T3)} (hn : n = ps.length) (h : w.ownsRow base 113 3 (.slice (some ⟨g, 0, none⟩) n cap) n (flat ps)) : Row w g cap ps ∧ base ≤ g := by
  subst hn
  obtain ⟨_, h2⟩ := h
  rcases h2 with ⟨h2, _⟩ | ⟨g', cap', cur, hv, hb, h1, h2, h3, h4, h5⟩
  · cases h2
  · simp only [Value.slice.injEq, Option.some.injEq, Addr.mk.injEq, and_true, true_and] at hv
    obtain ⟨rfl, rfl⟩ := hv
    exact ⟨⟨cur, h1, h2, h3, h4, h5⟩, hb⟩
theorem Row.lt {w : World} {g cap : Nat} {ps : List (T3)} (h : Row w g cap ps) : g < w.heap.size := by
  obtain ⟨cur, h1, _⟩ := h
  rcases Nat.lt_or_ge g w.heap.size with hlt | hge
  · exact hlt
  · rw [Array.getElem?_eq_none hge] at h1; cases h1
theorem Row.frame {w w' : World} {g cap : Nat} {ps : List (T3)} (h : Row w g cap ps) (hb : w'.heap[g]? = w.heap[g]?) : Row w' g cap ps := by
  obtain ⟨cur, h1, r⟩ := h
  exact ⟨cur, hb.trans h1, r⟩
theorem Row.cell {w : World} {g cap : Nat} {ps : List (T3)} (h : Row w g cap ps) (i : Nat) (hi : i < ps.length) :
    w.cell? ⟨g, i * 3, none⟩ = some (.int .i64 (at' ps i).1) ∧ w.cell? ⟨g, i * 3 + 1, none⟩ = some (.int .i64 (at' ps i).2.1) ∧ w.cell? ⟨g, i * 3 + 2, none⟩ = some (.int .i64 (at' ps i).2.2) ∧ w.frozen? ⟨g, i * 3, none⟩ = false ∧ w.frozen? ⟨g, i * 3 + 1, none⟩ = false ∧ w.frozen? ⟨g, i * 3 + 2, none⟩ = false := by
  obtain ⟨cur, h1, h2, h3, h4, h5⟩ := h
  obtain ⟨f1, f2, f3⟩ := flat_get ps i hi
  have k1 : cur[i * 3]? = some (.int .i64 (at' ps i).1) := by
    rw [← f1, ← h5, List.getElem?_take_of_lt (by omega), Array.getElem?_toList]
  have k2 : cur[i * 3 + 1]? = some (.int .i64 (at' ps i).2.1) := by
    rw [← f2, ← h5, List.getElem?_take_of_lt (by omega), Array.getElem?_toList]
  have k3 : cur[i * 3 + 2]? = some (.int .i64 (at' ps i).2.2) := by
    rw [← f3, ← h5, List.getElem?_take_of_lt (by omega), Array.getElem?_toList]
  simp [World.cell?, World.frozen?, h1, k1, k2, k3]
theorem Row.put {w : World} {g cap : Nat} {ps : List (T3)} (h : Row w g cap ps) (i : Nat) (x y z : Int) :
    Row (((w.setCell ⟨g, i * 3, none⟩ (.int .i64 x)).setCell ⟨g, i * 3 + 1, none⟩ (.int .i64 y)).setCell ⟨g, i * 3 + 2, none⟩ (.int .i64 z)) g cap (ps.set i (x, y, z)) := by
  obtain ⟨cur, h1, h2, h3, h4, h5⟩ := h
  refine ⟨_, heap_setCell_same _ _ _ _ _ _ _ (heap_setCell_same _ _ _ _ _ _ _ (heap_setCell_same _ _ _ _ _ _ _ h1)), by simpa using h2, h3, by simpa using h4, ?_⟩
  simp only [Array.toList_setIfInBounds, List.length_set]
  rw [List.take_set, List.take_set, List.take_set, h5, flat_set]
/-- A heap object: its head in block H, its pops in block g. -/
structure HeapIs (w : World) (H g cap : Nat) (ps : List (T3)) : Prop where
  head : w.heap[H]? = some (.cells #[.func (.func 84) #[] #[], .slice (some ⟨g, 0, none⟩) ps.length cap] 130 (0, 0))
  row : Row w g cap ps
  ne : H ≠ g
  len : ps.length ≤ 8796093022208
theorem HeapIs.cell {w : World} {H g cap : Nat} {ps : List (T3)} (h : HeapIs w H g cap ps) :
    w.cell? ⟨H, 0, none⟩ = some (.func (.func 84) #[] #[]) ∧ w.cell? ⟨H, 1, none⟩ = some (.slice (some ⟨g, 0, none⟩) ps.length cap) ∧ w.frozen? ⟨H, 1, none⟩ = false := by
  simp [World.cell?, World.frozen?, h.head]
theorem HeapIs.frame {w w' : World} {H g cap : Nat} {ps : List (T3)} (h : HeapIs w H g cap ps) (h1 : w'.heap[H]? = w.heap[H]?) (h2 : w'.heap[g]? = w.heap[g]?) : HeapIs w' H g cap ps :=
  ⟨h1.trans h.head, h.row.frame h2, h.ne, h.len⟩
theorem HeapIs.ltH {w : World} {H g cap : Nat} {ps : List (T3)} (h : HeapIs w H g cap ps) : H < w.heap.size := by
  rcases Nat.lt_or_ge H w.heap.size with hlt | hge
  · exact hlt
  · have := h.head; rw [Array.getElem?_eq_none hge] at this; cases this
theorem HeapIs.below {w w' : World} {H g cap : Nat} {ps : List (T3)} (h : HeapIs w H g cap ps) (hb : Below w.heap.size w w') : HeapIs w' H g cap ps :=
  h.frame (hb.block _ h.ltH) (hb.block _ h.row.lt)
theorem drew_heap (W : World) : W.drew.heap = W.heap := rfl
theorem eta3 (p : T3) : (p.1, p.2.1, p.2.2) = p := rfl
theorem HeapIs.swp {w : World} {H g cap : Nat} {ps : List (T3)} (h : HeapIs w H g cap ps) (i j : Nat) :
    HeapIs ((((((w.setCell ⟨g, i * 3, none⟩ (.int .i64 (at' ps j).1)).setCell ⟨g, i * 3 + 1, none⟩ (.int .i64 (at' ps j).2.1)).setCell ⟨g, i * 3 + 2, none⟩ (.int .i64 (at' ps j).2.2)).setCell ⟨g, j * 3, none⟩ (.int .i64 (at' ps i).1)).setCell ⟨g, j * 3 + 1, none⟩ (.int .i64 (at' ps i).2.1)).setCell ⟨g, j * 3 + 2, none⟩ (.int .i64 (at' ps i).2.2)).drew H g cap (Jp.swp ps i j) := by
  have r := (h.row.put i (at' ps j).1 (at' ps j).2.1 (at' ps j).2.2).put j (at' ps i).1 (at' ps i).2.1 (at' ps i).2.2
  rw [eta3, eta3] at r
  refine ⟨?_, r.frame (by rw [drew_heap]), h.ne, by rw [swp_length]; exact h.len⟩
  rw [swp_length]
  rw [drew_heap, Below.heap_setCell _ _ _ _ h.ne, Below.heap_setCell _ _ _ _ h.ne, Below.heap_setCell _ _ _ _ h.ne, Below.heap_setCell _ _ _ _ h.ne, Below.heap_setCell _ _ _ _ h.ne, Below.heap_setCell _ _ _ _ h.ne]
  exact h.head
set_option maxHeartbeats 4000000 in
theorem swap_any (H g i j cap : Nat) (ps : List (T3)) (w : World) (hi : i < ps.length) (hj : j < ps.length) (hij : i ≠ j) (h : HeapIs w H g cap ps) :
    Calls Try.prog 103 #[.pointer (some ⟨H, 0, none⟩), .int .i64 i, .int .i64 j] w fun e w' => e = .returned (.tuple #[]) ∧ HeapIs w' H g cap (Jp.swp ps i j) ∧ w.grownBy w' (some g) := by
  obtain ⟨h0, h1, _⟩ := h.cell
  obtain ⟨c0, c1, c4, f0, f1, f4⟩ := h.row.cell i hi
  obtain ⟨c2, c3, c5, f2, f3, f5⟩ := h.row.cell j hj
  have HS : Hid _ := h.swp i j
  have hHg := h.ne
  have hlen := h.len
  clear h
  generalize at' ps i = p at *
  generalize at' ps j = q at *
  obtain ⟨a, b, x⟩ := p
  obtain ⟨c, d, y⟩ := q
  simp only at c0 c1 c2 c3 c4 c5 HS
  generalize hn : ps.length = n at *
  have i1 : (i : Int) < (n : Int) := by omega
  have j1 : (j : Int) < (n : Int) := by omega
  clear hn
  go_enter Try.func103, Try.ntmps103
  go_wp2_with fail
  go_region
  go_wp2
  go_end0
  exact ⟨rfl, HS.out, grown_drew (grown_setCell (grown_setCell (grown_setCell (grown_setCell (grown_setCell (grown_setCell (grown_refl _ _)))))))⟩
end Go.Proofs.Ytefikbjjdldomaa.Jw
namespace Go.Proofs.Ytefikbjjdldomaa.Jw
open Go.RowKit
open Jp
attribute [local go_sem ↓] Go.wp_at_zero Go.wp_at_succ

theorem less_yes (p q : T3) (a b x c d y : Int) (w : World) (h : ltb p q = true) (e1 : p.1 = a) (e2 : p.2.1 = b) (e3 : p.2.2 = x) (e4 : q.1 = c) (e5 : q.2.1 = d) (e6 : q.2.2 = y) :
    Calls Try.prog 84 #[.agg #[.int .i64 a, .int .i64 b, .int .i64 x], .agg #[.int .i64 c, .int .i64 d, .int .i64 y]] w fun e w' => e = .returned (.bool true) ∧ Below w.heap.size w w' := by
  subst e1 e2 e3 e4 e5 e6
  have := sooner_any p q w; rw [h] at this; exact this
theorem less_no (p q : T3) (a b x c d y : Int) (w : World) (h : ltb p q = false) (e1 : p.1 = a) (e2 : p.2.1 = b) (e3 : p.2.2 = x) (e4 : q.1 = c) (e5 : q.2.1 = d) (e6 : q.2.2 = y) :
    Calls Try.prog 84 #[.agg #[.int .i64 a, .int .i64 b, .int .i64 x], .agg #[.int .i64 c, .int .i64 d, .int .i64 y]] w fun e w' => e = .returned (.bool false) ∧ Below w.heap.size w w' := by
  subst e1 e2 e3 e4 e5 e6
  have := sooner_any p q w; rw [h] at this; exact this
set_option maxHeartbeats 4000000 in
theorem rise_any (H g i cap : Nat) (ps : List (T3)) (w : World) (hi : i < ps.length) (h : HeapIs w H g cap ps) (hu : UpAt ps i) :
    Calls Try.prog 102 #[.pointer (some ⟨H, 0, none⟩), .int .i64 i] w fun e w' => e = .returned (.tuple #[]) ∧ ∃ qs, HeapIs w' H g cap qs ∧ qs.Perm ps ∧ IsHeap qs ∧ w.grownBy w' (some g) := by
  have hlen := h.len
  go_enter Try.func102, Try.ntmps102
  go_wp2
  go_loopw [1] (fun x wr => ∃ (k : Nat) (qs : List (T3)), x = .int .i64 k ∧ k < qs.length ∧ HeapIs wr H g cap qs ∧ qs.Perm ps ∧ UpAt qs k ∧ w.grownBy wr (some g)) (fun x _ => (intOf x).toNat)
  case atStart => exact ⟨i, ps, rfl, hi, h, List.Perm.refl _, hu, grown_refl _ _⟩
  case round =>
    clear h hu hi
    obtain ⟨k, qs, rfl, hk, h, hp, hu, hg⟩ := hrel
    have HP : Hid _ := hp
    have HU : Hid _ := hu
    clear hp hu
    have hql := h.len
    by_cases h0 : k = 0
    · subst h0
      go_wp2
      go_end0
      exact ⟨rfl, qs, h, HP.out, up_done0 HU.out, hg⟩
    · have hpos : (0 : Int) < (k : Int) := by omega
      have hkn : (k : Int) < (qs.length : Int) := by omega
      obtain ⟨m, hm⟩ : ∃ m : Nat, m = (k - 1) / 2 := ⟨_, rfl⟩
      have hmn : m < qs.length := by omega
      have hdiv : ((k : Int) - 1) / 2 = (m : Int) := by omega
      have hmi : (m : Int) < (qs.length : Int) := by omega
      obtain ⟨c0, c1, c4, _, _, _⟩ := h.row.cell k hk
      obtain ⟨c2, c3, c5, _, _, _⟩ := h.row.cell m hmn
      obtain ⟨g0, g1, _⟩ := h.cell
      obtain ⟨a, ha⟩ : ∃ x, (at' qs k).1 = x := ⟨_, rfl⟩
      obtain ⟨b, hb⟩ : ∃ x, (at' qs k).2.1 = x := ⟨_, rfl⟩
      obtain ⟨x, hx⟩ : ∃ x, (at' qs k).2.2 = x := ⟨_, rfl⟩
      obtain ⟨c, hc⟩ : ∃ x, (at' qs m).1 = x := ⟨_, rfl⟩
      obtain ⟨d, hd⟩ : ∃ x, (at' qs m).2.1 = x := ⟨_, rfl⟩
      obtain ⟨y, hy⟩ : ∃ x, (at' qs m).2.2 = x := ⟨_, rfl⟩
      rw [ha] at c0
      rw [hb] at c1
      rw [hc] at c2
      rw [hd] at c3
      rw [hx] at c4
      rw [hy] at c5
      have HX : Hid _ := hx
      have HY : Hid _ := hy
      have HA : Hid _ := ha
      have HB : Hid _ := hb
      have HC : Hid _ := hc
      have HD : Hid _ := hd
      have HM : Hid _ := hm
      clear ha hb hc hd hm hx hy
      cases hl : ltb (at' qs k) (at' qs m)
      all_goals
        have HL : Hid _ := hl
        clear hl
        go_wp2_with fail
        simp only [hdiv]
        go_region_held3 (fun w' => w'.cell? ⟨H, 0, none⟩ = some (.func (.func 84) #[] #[]) ∧ w'.cell? ⟨H, 1, none⟩ = some (.slice (some ⟨g, 0, none⟩) qs.length cap) ∧ w'.cell? ⟨g, k * 3, none⟩ = some (.int .i64 a) ∧ w'.cell? ⟨g, k * 3 + 1, none⟩ = some (.int .i64 b) ∧ w'.cell? ⟨g, k * 3 + 2, none⟩ = some (.int .i64 x) ∧ w'.cell? ⟨g, m * 3, none⟩ = some (.int .i64 c) ∧ w'.cell? ⟨g, m * 3 + 1, none⟩ = some (.int .i64 d) ∧ w'.cell? ⟨g, m * 3 + 2, none⟩ = some (.int .i64 y))
          (first | (go_split_ands; refine ⟨kept hb1 ?_, kept hb1 ?_, kept hb1 ?_, kept hb1 ?_, kept hb1 ?_, kept hb1 ?_, kept hb1 ?_, kept hb1 ?_⟩ <;> assumption) | go_keep)
          (first
           | (go_at_call 84; refine (less_no (at' qs k) (at' qs m) _ _ _ _ _ _ _ HL.out HA.out HB.out HX.out HC.out HD.out HY.out).mono ?_; rintro e w1 ⟨rfl, hb1⟩)
           | (go_at_call 84; refine (less_yes (at' qs k) (at' qs m) _ _ _ _ _ _ _ HL.out HA.out HB.out HX.out HC.out HD.out HY.out).mono ?_; rintro e w1 ⟨rfl, hb1⟩))
        go_wp2_with fail
      · have hb2 := bthen (Below.drew (Below.refl wr.heap.size wr)) hb1
        exact bodyPost_ret (v := .tuple #[]) (by simp [results, Try.results102, go_sem]) rfl ⟨rfl, qs, h.below hb2, HP.out, up_done HU.out (by rw [← HM.out]; exact ltb_false HL.out), grown_trans hg (grown_below hb2)⟩
      · have hb2 := bthen (Below.drew (Below.refl wr.heap.size wr)) hb1
        refine (swap_any H g k m cap qs _ hk hmn (by have := HM.out; omega) (h.below hb2)).mono ?_
        rintro e w2 ⟨rfl, h2, hg2⟩
        go_wp2
        go_roundw
        case rel =>
          refine ⟨m, Jp.swp qs k m, rfl, by rw [swp_length]; exact hmn, h2, (swp_perm qs k m hk hmn).trans HP.out, ?_, grown_trans (grown_trans hg (grown_below hb2)) hg2⟩
          have := up_step HU.out (by omega) hk (by rw [← HM.out]; exact ltb_true HL.out)
          rw [← HM.out] at this
          exact this
        case measure => simp [intOf]; have := HM.out; omega
end Go.Proofs.Ytefikbjjdldomaa.Jw
namespace Go.Proofs.Ytefikbjjdldomaa.Jw
open Go.RowKit
open Jp
attribute [local go_sem ↓] Go.wp_at_zero Go.wp_at_succ
attribute [local simp] Go.RowKit.frozen?_alloc_cells

theorem info33 : (Try.prog.info? 113).map (fun i => (i.zero, i.size, i.bytes)) = some (some (.agg #[.int .i64 0, .int .i64 0, .int .i64 0]), 3, 24) := by kernel_rfl
theorem at_append_left (ps : List (T3)) (p : T3) (i : Nat) (h : i < ps.length) : at' (ps ++ [p]) i = at' ps i := by
  unfold at'; simp [List.getD_eq_getElem?_getD, List.getElem?_append_left h]
theorem up_push {ps : List (T3)} (h : IsHeap ps) (p : T3) : UpAt (ps ++ [p]) ps.length := by
  refine ⟨fun i h0 hi hne => ?_, fun _ i h0 hi hp => ?_⟩
  · have hi' : i < ps.length := by simp at hi; omega
    rw [at_append_left _ _ _ hi', at_append_left _ _ _ (by omega)]
    exact h i h0 hi'
  · simp at hi; omega
theorem keptF_alloc0 {W : World} {b o : Nat} (c : Array Value) (t : TypeId) (hf : W.frozen? ⟨b, o, none⟩ = false) : (W.alloc (.cells c t)).frozen? ⟨b, o, none⟩ = false := by
  rw [frozen?_alloc_cells]; exact hf
/-- Behind the append: the heap's object holds one pop more. -/
theorem push_state {base H : Nat} {v : Value} {ps : List (T3)} {a b c : Int} {w w1 : World} {o1 o2 : Obj} {gg cap : Nat}
    (hd : w.heap[H]? = some (.cells #[.func (.func 84) #[] #[], v] 130 (0, 0))) (lH : H < w.heap.size) (hne : v.ownBlock ≠ some H) (hlen : ps.length + 1 ≤ 8796093022208)
    (hown1 : w1.ownsRow base 113 3 (.slice (some ⟨gg, 0, none⟩) (ps.length + 1) cap) (ps.length + 1) (flat ps ++ [.int .i64 a, .int .i64 b, .int .i64 c]))
    (hgrow : ((w.alloc o1).alloc o2).drew.grownBy w1 v.ownBlock) (hat : v.ownBlock = some gg ∨ gg = w.heap.size + 1 + 1) :
    HeapIs (w1.setCell ⟨H, 1, none⟩ (.slice (some ⟨gg, 0, none⟩) (ps.length + 1) cap)) H gg cap (ps ++ [(a, b, c)]) ∧ base ≤ gg := by
  have hl : (ps ++ [(a, b, c)]).length = ps.length + 1 := by simp
  have hf : flat ps ++ [.int .i64 a, .int .i64 b, .int .i64 c] = flat (ps ++ [(a, b, c)]) := by rw [flat_append]; rfl
  rw [hf] at hown1
  obtain ⟨hr, hb⟩ := Row.of_owns hl.symm hown1
  have hHg : H ≠ gg := by
    rcases hat with h | h
    · intro e; subst e; exact hne h
    · omega
  have h1 : w1.heap[H]? = some (.cells #[.func (.func 84) #[] #[], v] 130 (0, 0)) := by
    rw [hgrow.block H (by show H < ((w.alloc o1).alloc o2).heap.size; simp; omega) (Ne.symm hne)]
    show ((w.alloc o1).alloc o2).heap[H]? = _
    rw [Below.heap_alloc _ _ _ (by simp; omega), Below.heap_alloc _ _ _ lH]
    exact hd
  refine ⟨⟨?_, hr.frame (Below.heap_setCell _ _ _ _ (Ne.symm hHg)), hHg, by omega⟩, hb⟩
  rw [heap_setCell_same _ _ _ _ _ _ _ h1, hl]
  rfl
theorem push_below {base H gg cap n : Nat} {v : Value} {w w1 : World} {o1 o2 : Obj} (hH : base ≤ H) (lH : H < w.heap.size) (hv : ∀ g, v.ownBlock = some g → base ≤ g ∧ g < w.heap.size)
    (hgrow : ((w.alloc o1).alloc o2).drew.grownBy w1 v.ownBlock) : Below base w (w1.setCell ⟨H, 1, none⟩ (.slice (some ⟨gg, 0, none⟩) n cap)) := by
  have h1 : Below base w ((w.alloc o1).alloc o2).drew := Below.drew (Below.alloc (Below.alloc (Below.refl _ _) (by omega) _) (by simp; omega) _)
  refine Below.setCell (h1.grown hgrow (by show base ≤ ((w.alloc o1).alloc o2).heap.size; simp; omega) (fun k hk => (hv k hk).1)) hH _
set_option maxRecDepth 100000 in
set_option maxHeartbeats 4000000 in
theorem push_any (base H : Nat) (v : Value) (ps : List (T3)) (a b c : Int) (w : World)
    (hd : w.heap[H]? = some (.cells #[.func (.func 84) #[] #[], v] 130 (0, 0))) (hown : w.ownsRow base 113 3 v ps.length (flat ps)) (hne : v.ownBlock ≠ some H) (hbH : base ≤ H) (hlen : ps.length + 1 ≤ 4398046511104) (hheap : IsHeap ps) :
    Calls Try.prog 97 #[.pointer (some ⟨H, 0, none⟩), .agg #[.int .i64 a, .int .i64 b, .int .i64 c]] w fun e w' => e = .returned (.tuple #[]) ∧ ∃ g cap qs, HeapIs w' H g cap qs ∧ base ≤ g ∧ qs.Perm (ps ++ [(a, b, c)]) ∧ IsHeap qs ∧ Below base w w' ∧ (∀ k, k < w.heap.size → k ≠ H → v.ownBlock ≠ some k → w'.heap[k]? = w.heap[k]?) ∧ (v.ownBlock = some g ∨ w.heap.size ≤ g) := by
  obtain ⟨i0, hi0, hz0, hz1, hz2⟩ := info_parts info33
  have lH : H < w.heap.size := by
    rcases Nat.lt_or_ge H w.heap.size with hlt | hge
    · exact hlt
    · rw [Array.getElem?_eq_none hge] at hd; cases hd
  have c1 : w.cell? ⟨H, 1, none⟩ = some v := by simp [World.cell?, hd]
  have f1 : w.frozen? ⟨H, 1, none⟩ = false := by simp [World.frozen?, hd]
  have HUP : Hid _ := up_push hheap (a, b, c)
  clear hheap
  have hn63 : ps.length + 1 ≤ maxLen := by unfold maxLen; omega
  have d1 := kept_alloc (x := .cells #[.int .i64 a, .int .i64 b, .int .i64 c] 113) c1
  have e1 := keptF_alloc0 #[.int .i64 a, .int .i64 b, .int .i64 c] 113 f1
  have hnb : some w.heap.size ≠ v.ownBlock := fun e => by have := (ownBlock_lt hown _ e.symm).2; omega
  have hnew : ((w.alloc (.cells #[.int .i64 a, .int .i64 b, .int .i64 c] 113)).alloc (.cells #[.int .i64 a, .int .i64 b, .int .i64 c] 113)).drew.heap[w.heap.size + 1]? = some (.cells #[.int .i64 a, .int .i64 b, .int .i64 c] 113) := by
    have := heap_alloc_new (w.alloc (.cells #[.int .i64 a, .int .i64 b, .int .i64 c] 113)) (.cells #[.int .i64 a, .int .i64 b, .int .i64 c] 113)
    show ((w.alloc (.cells #[.int .i64 a, .int .i64 b, .int .i64 c] 113)).alloc (.cells #[.int .i64 a, .int .i64 b, .int .i64 c] 113)).heap[w.heap.size + 1]? = _
    simpa using this
  have HN : Hid _ := hnew
  clear hnew
  go_enter Try.func97, Try.ntmps97
  go_wp2_with fail
  go_region_law
    ((refine step_append_lies _ (by rfl) _ _ _ (by rfl) base 113 i0 _ 3 24 Try.underlying128 hi0 hz0 hz1 hz2 rfl (by omega) v ps.length (flat ps) (by rfl) (((hown.alloc _).alloc _).drew)
        ⟨w.heap.size + 1, 0, none⟩ 1 1 [.int .i64 a, .int .i64 b, .int .i64 c] (by rfl) (by rfl) (World.news_of_block (cs := #[.int .i64 a, .int .i64 b, .int .i64 c]) (t := 113) (fr := (0, 0)) HN.out) (by simp [Value.oneCell'])
        (by omega) hn63 (by omega) (by simp; omega) (w.heap.size + 1 + 1) (by simp) ?_; intro gg cap w1 hown1 hgrow hat hlt; have q1 : w1.cell? ⟨H, 1, none⟩ = some v := (by rw [hgrow.cell_far _ (by simp; omega) (Ne.symm hne)]; go_simp); have q2 : w1.frozen? ⟨H, 1, none⟩ = false := (by rw [hgrow.frozen_far _ (by simp; omega) (Ne.symm hne)]; simp [f1])))
  all_goals
    obtain ⟨hst, hbg⟩ := push_state hd lH hne (by omega) hown1 hgrow hat
    have hbl : Below base w (w1.setCell ⟨H, 1, none⟩ (.slice (some ⟨gg, 0, none⟩) (ps.length + 1) cap)) := push_below hbH lH (ownBlock_lt hown) hgrow
    obtain ⟨k0, k1, k2⟩ := hst.cell
    have hl : (ps ++ [(a, b, c)]).length = ps.length + 1 := by simp
    rw [hl] at k1
    have FAR : Hid (∀ k, k < w.heap.size → k ≠ H → v.ownBlock ≠ some k → (w1.setCell ⟨H, 1, none⟩ (.slice (some ⟨gg, 0, none⟩) (ps.length + 1) cap)).heap[k]? = w.heap[k]?) := fun k hk h1 h2 => by
      rw [Below.heap_setCell _ _ _ _ h1, hgrow.block k (by show k < ((w.alloc _).alloc _).heap.size; simp; omega) (Ne.symm h2)]
      show ((w.alloc _).alloc _).heap[k]? = _
      rw [Below.heap_alloc _ _ _ (by simp; omega), Below.heap_alloc _ _ _ hk]
    have AT : Hid (v.ownBlock = some gg ∨ w.heap.size ≤ gg) := hat.imp_right (fun h => by omega)
    generalize hW : w1.setCell ⟨H, 1, none⟩ (.slice (some ⟨gg, 0, none⟩) (ps.length + 1) cap) = W at *
    clear hW hown1 hgrow hlt q1 q2
    go_wp2_with fail
    refine (rise_any H gg ps.length cap (ps ++ [(a, b, c)]) W (by omega) hst HUP.out).mono ?_
    rintro e w2 ⟨rfl, qs, s1, s2, s3, s4⟩
    go_wp2
    go_end0
    exact ⟨rfl, gg, cap, qs, s1, hbg, s2, s3, hbl.grown s4 (by have := hst.ltH; omega) (fun k hk => by cases hk; exact hbg), fun k hk h1 h2 => by
      have hkg : k ≠ gg := by
        rcases AT.out with h | h
        · intro e; subst e; exact h2 h
        · omega
      have hkW : k < W.heap.size := by
        have h9 := FAR.out k hk h1 h2
        rcases Nat.lt_or_ge k W.heap.size with h | h
        · exact h
        · rw [Array.getElem?_eq_none h, Array.getElem?_eq_getElem hk] at h9; cases h9
      rw [s4.block k hkW (by simpa using hkg)]; exact FAR.out k hk h1 h2, AT.out⟩
end Go.Proofs.Ytefikbjjdldomaa.Jw
namespace Go.Proofs.Ytefikbjjdldomaa.Jw
open Go.RowKit
open Jp

theorem heap_lt {w : World} {k : Nat} {o : Obj} (h : w.heap[k]? = some o) : k < w.heap.size := by
  rcases Nat.lt_or_ge k w.heap.size with hlt | hge
  · exact hlt
  · rw [Array.getElem?_eq_none hge] at h; cases h
theorem new_any (w : World) : Calls Try.prog 83 #[.func (.func 84) #[] #[]] w fun e w' => e = .returned (.pointer (some ⟨w.heap.size, 0, none⟩)) ∧ w' = w.alloc (.cells #[.func (.func 84) #[] #[], .slice none 0 0] 130) := by
  go_enter Try.func83, Try.ntmps83
  go_wp2
  go_ret
  exact ⟨rfl, rfl⟩
end Go.Proofs.Ytefikbjjdldomaa.Jw
