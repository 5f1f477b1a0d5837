/-
  Contracts: spoil of edges.
-/
import Derived.Test.YtidbbkpgmcheiaaOE
namespace Go.Proofs.Ytidbbkpgmcheiaa
open Go.RowKit
open Nm
attribute [local go_sem ↓] Go.wp_at_zero Go.wp_at_succ

/-- A row of c edges. -/
structure Rb (w : World) (g c : Nat) : Prop where
  at_ : ∃ cur : Array Value, w.heap[g]? = some (.cells cur 44 (0, 0)) ∧ cur.size = c * 3
theorem Rb.cell {w : World} {g c : Nat} (h : Rb w g c) (i : Nat) (hi : i < c * 3) : ∃ u, w.cell? ⟨g, i, none⟩ = some u ∧ w.frozen? ⟨g, i, none⟩ = false := by
  obtain ⟨cur, h1, h2⟩ := h.at_
  refine ⟨cur[i], ?_, ?_⟩
  · unfold World.cell?; rw [h1]; simp
  · unfold World.frozen?; rw [h1]; simp
theorem Rb.put {w : World} {g c : Nat} (h : Rb w g c) (i : Nat) (v : Value) : Rb (w.setCell ⟨g, i, none⟩ v) g c := by
  obtain ⟨cur, h1, h2⟩ := h.at_
  exact ⟨_, heap_setCell_same _ _ _ _ _ _ _ h1, by simpa using h2⟩
theorem Rb.lt {w : World} {g c : Nat} (h : Rb w g c) : g < w.heap.size := by
  obtain ⟨cur, h1, h2⟩ := h.at_
  rcases Nat.lt_or_ge g w.heap.size with hlt | hge
  · exact hlt
  · rw [Array.getElem?_eq_none hge] at h1; cases h1
theorem Rb.below {w w' : World} {g c : Nat} (h : Rb w g c) (hb : Below w.heap.size w w') : Rb w' g c := by
  have hlt := h.lt
  obtain ⟨cur, h1, h2⟩ := h.at_
  exact ⟨cur, (hb.block _ hlt).trans h1, h2⟩
set_option maxRecDepth 100000 in
set_option maxHeartbeats 8000000 in
theorem spoil3_row (g n c : Nat) (w : World) (h : Rb w g c) (hn : n ≤ c) (hc : c ≤ 9223372036854775807) :
    Calls Try.prog 45 #[.slice (some ⟨g, 0, none⟩) n c, .agg #[.int .i64 0, .int .i64 0, .int .i64 0]] w fun e w' => e = .returned (.tuple #[]) ∧ w.grownBy w' (some g) := by
  have HR : Hid _ := h.below (balloc (Below.refl _ _) (.cells #[.int .i64 0, .int .i64 0, .int .i64 0] 44))
  have X0 : Hid _ := box3_new w 0 0 (.int .i64 0) 44
  have GL : Hid (g < w.heap.size) := h.lt
  have G0 : Hid (w.grownBy (w.alloc (.cells #[.int .i64 0, .int .i64 0, .int .i64 0] 44)) (some g)) := grown_below (balloc (Below.refl _ _) _)
  have hni : (n : Int) ≤ (c : Int) := by omega
  clear h
  go_enter Try.func45, Try.ntmps45
  go_wp2_with fail
  generalize (w.alloc (.cells #[.int .i64 0, .int .i64 0, .int .i64 0] 44)) = W0 at *
  go_loopw [11] (fun z wr => ∃ k : Nat, z = .int .i64 k ∧ k ≤ c ∧ Rb wr g c ∧ Box3 wr w.heap.size 0 0 (.int .i64 0) ∧ w.grownBy wr (some g)) (fun z _ => c - (intOf z).toNat)
  case atStart => exact ⟨0, rfl, Nat.zero_le _, HR.out, X0.out, G0.out⟩
  case round =>
    obtain ⟨k, rfl, hk, hrb, hbx, hg⟩ := hrel
    have RB : Hid _ := hrb
    have BX : Hid _ := hbx
    have HG : Hid _ := hg
    clear hrb hbx hg
    by_cases hlt : k < c
    · have hki : (k : Int) < (c : Int) := by omega
      obtain ⟨u, u1, u2⟩ := RB.out.cell (k * 3) (by omega)
      obtain ⟨v, v1, v2⟩ := RB.out.cell (k * 3 + 1) (by omega)
      obtain ⟨t, t1, t2⟩ := RB.out.cell (k * 3 + 2) (by omega)
      obtain ⟨x0, x1, x2⟩ := BX.out
      have NE : w.heap.size ≠ g := by have := GL.out; omega
      have put : ∀ (o : Nat) (y : Value), wr.cell? ⟨w.heap.size, o, none⟩ = some y → ((((wr.setCell ⟨g, k * 3, none⟩ (.int .i64 0)).setCell ⟨g, k * 3 + 1, none⟩ (.int .i64 0)).setCell ⟨g, k * 3 + 2, none⟩ (.int .i64 0))).cell? ⟨w.heap.size, o, none⟩ = some y := by
        intro o y h
        have h1 : ∀ (W' : World) (i : Nat) (z y' : Value), W'.cell? ⟨w.heap.size, o, none⟩ = some y' → (W'.setCell ⟨g, i, none⟩ z).cell? ⟨w.heap.size, o, none⟩ = some y' := by
          intro W' i z y' h'
          have hb := Below.heap_setCell W' ⟨g, i, none⟩ z w.heap.size NE
          unfold World.cell? at *; rw [hb]; exact h'
        exact h1 _ _ _ _ (h1 _ _ _ _ (h1 _ _ _ _ h))
      have KEEP : Hid (((((wr.setCell ⟨g, k * 3, none⟩ (.int .i64 0)).setCell ⟨g, k * 3 + 1, none⟩ (.int .i64 0)).setCell ⟨g, k * 3 + 2, none⟩ (.int .i64 0))).cell? ⟨w.heap.size, 0, none⟩ = some (.int .i64 0) ∧ ((((wr.setCell ⟨g, k * 3, none⟩ (.int .i64 0)).setCell ⟨g, k * 3 + 1, none⟩ (.int .i64 0)).setCell ⟨g, k * 3 + 2, none⟩ (.int .i64 0))).cell? ⟨w.heap.size, 1, none⟩ = some (.int .i64 0) ∧ ((((wr.setCell ⟨g, k * 3, none⟩ (.int .i64 0)).setCell ⟨g, k * 3 + 1, none⟩ (.int .i64 0)).setCell ⟨g, k * 3 + 2, none⟩ (.int .i64 0))).cell? ⟨w.heap.size, 2, none⟩ = some (.int .i64 0)) := ⟨put _ _ x0, put _ _ x1, put _ _ x2⟩
      clear put NE
      go_wp2_with fail
      go_roundw
      case rel => exact ⟨k + 1, by go_num, by omega, ((RB.out.put _ _).put _ _).put _ _, ⟨KEEP.out.1, KEEP.out.2.1, KEEP.out.2.2⟩, grown_setCell (grown_setCell (grown_setCell HG.out))⟩
      case measure => simp [intOf]; omega
    · have hke : k = c := by omega
      subst hke
      go_wp2_with fail
      go_end0
      exact ⟨rfl, HG.out⟩
set_option maxRecDepth 100000 in
set_option maxHeartbeats 8000000 in
theorem spoil3_nil (w : World) :
    Calls Try.prog 45 #[.slice none 0 0, .agg #[.int .i64 0, .int .i64 0, .int .i64 0]] w fun e w' => e = .returned (.tuple #[]) ∧ Below w.heap.size w w' := by
  have B0 : Hid (Below w.heap.size w (w.alloc (.cells #[.int .i64 0, .int .i64 0, .int .i64 0] 44))) := balloc (Below.refl _ _) _
  go_enter Try.func45, Try.ntmps45
  go_wp2_with fail
  generalize (w.alloc (.cells #[.int .i64 0, .int .i64 0, .int .i64 0] 44)) = W0 at *
  go_loopw [11] (fun z wr => z = .int .i64 0 ∧ wr = W0) (fun _ _ => 0)
  case atStart => exact ⟨rfl, rfl⟩
  case round =>
    obtain ⟨rfl, rfl⟩ := hrel
    go_wp2_with fail
    go_end0
    exact ⟨rfl, B0.out⟩
theorem spoil3_rm (g : Nat) (l : List E) (r : List Value) (w : World) (h : Rm3 w g l r) (hl : l.length ≤ 5864062014634) :
    Calls Try.prog 45 #[.slice (some ⟨g, 0, none⟩) l.length (l.length + 3), .agg #[.int .i64 0, .int .i64 0, .int .i64 0]] w fun e w' => e = .returned (.tuple #[]) ∧ w.grownBy w' (some g) :=
  spoil3_row g l.length (l.length + 3) w ⟨_, h.at_, by have := h.nine; have := flat3_length l; simp; omega⟩ (by omega) (by omega)
/-- Edges that the calls made for themselves are spoilt: nothing turns but what lies where they lie. -/
theorem spoil3_es (u : Value) (base : Nat) (l : List E) (w : World) (h : Es w base u l) :
    Calls Try.prog 45 #[u, .agg #[.int .i64 0, .int .i64 0, .int .i64 0]] w fun e w' => e = .returned (.tuple #[]) ∧ (Below w.heap.size w w' ∨ ∃ g, u.ownBlock = some g ∧ base ≤ g ∧ w.grownBy w' (some g)) := by
  rcases h.own.2 with ⟨rfl, h0⟩ | ⟨g, cap, cur, rfl, hb, h1, h2, h3, h4, h5⟩
  · refine (spoil3_nil w).mono ?_
    rintro e w' ⟨rfl, b⟩
    exact ⟨rfl, .inl b⟩
  · refine (spoil3_row g l.length cap w ⟨cur, h1, by omega⟩ (by omega) (by unfold maxLen at h3; omega)).mono ?_
    rintro e w' ⟨rfl, hg⟩
    exact ⟨rfl, .inr ⟨g, rfl, hb, hg⟩⟩
end Go.Proofs.Ytidbbkpgmcheiaa
