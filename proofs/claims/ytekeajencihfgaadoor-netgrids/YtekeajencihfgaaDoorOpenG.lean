/-
  Ground among the arguments, opened; the table of steps, as the program's text lays it.
-/
import Derived.Test.YtekeajencihfgaaDoorDD
import Derived.ProofKit
import Derived.OpenShut
import Derived.LaidMore
import Derived.Stop.Joined
import Derived.ShutString
import Derived.ChangeOld
import Derived.ChangeSlices
import Derived.Lib.SmallJoins
namespace Go.Proofs.YtekeajencihfgaaDoor
open Go.ChangeShapes Go.WideShapes Go.ChangeAt Go.RowKit Go.Joins Go.Deep
open Gm

theorem own : ownKnob Tryd.prog.godebug = none := by kernel_rfl
theorem laidOut : laidOutB Tryd.prog = true := by kernel_rfl
theorem cells3 : Tryd.prog.cellsOf 3 = 1 := by kernel_rfl
theorem cells22 : Tryd.prog.cellsOf 22 = 1 := by kernel_rfl
theorem cells24 : Tryd.prog.cellsOf 24 = 3 := by kernel_rfl
theorem cells60 : Tryd.prog.cellsOf 51 = 3 := by kernel_rfl
theorem gSteps : Tryd.prog.globalNamed "fellwalker/grid.steps" = some 0 := by kernel_rfl
theorem tSteps : (Tryd.prog.globals[0]?).map (·.type) = some 52 := by kernel_rfl

abbrev laid1 : List (String × DataW Unit) := [("fellwalker/grid.steps", Rows.laid_fellwalker_grid_steps)]

/-- One step, read. -/
theorem step_of {H : Type} {enc : TypeId × Value → H} {W : World} {base : Nat} {sp : Nat → Bool} {held : Bool} {m : Nat} {l : List Value} {x : DataW H × List MemPlace} (h : DataW.trod enc Tryd.prog W base sp held m 51 l = some x) :
    ∃ a b c : Int, l = [.int .i64 a, .int .i64 b, .int .i64 c] ∧ x.1 = .agg [.lit (.int .i64 a), .lit (.int .i64 b), .lit (.int .i64 c)] := by
  obtain ⟨y0, y1, y2, n, hx, hl, h0, h1, h2⟩ := trod_struct3 Tryd.underlying51 h
  rw [cells60] at hl
  match l, hl with
  | [c0, c1, c2], _ =>
    simp only [cells3] at h0 h1 h2
    obtain ⟨a, e0, hy0, _⟩ := DataW.trod_int Tryd.underlying3 h0
    obtain ⟨b, e1, hy1, _⟩ := DataW.trod_int Tryd.underlying3 h1
    obtain ⟨c, e2, hy2, _⟩ := DataW.trod_int Tryd.underlying3 h2
    simp at e0 e1 e2
    subst e0 e1 e2
    exact ⟨a, b, c, rfl, by rw [hx, hy0, hy1, hy2]⟩

theorem of_laid {W : World} (h : laidMetH Tryd.prog laid1 W) : Steps W := by
  rw [MakeChecks.laidMetH_plain _ _ _ (by kernel_rfl)] at h
  obtain ⟨ps, ⟨g0, t0, cs0, f0, p0, q0, hg0, ht0, hv0, hd0, _, _⟩, _, _⟩ := h
  obtain rfl := Option.some.inj (gSteps.symm.trans hg0)
  obtain rfl := Option.some.inj (tSteps.symm.trans ht0)
  obtain ⟨xs, m1, rfl, hx1, hlen, hn8, hel⟩ := DataW.trod_array Tryd.underlying52 hd0
  have hxs : (xs.map (·.1)) = (List.range 8).map (fun i => (.agg [.lit (.int .i64 (st i).1), .lit (.int .i64 (st i).2.1), .lit (.int .i64 (st i).2.2)] : DataW Unit)) := by
    have := congrArg Prod.fst hx1
    simp only at this
    have e : Rows.laid_fellwalker_grid_steps = (.agg ((List.range 8).map (fun i => (.agg [.lit (.int .i64 (st i).1), .lit (.int .i64 (st i).2.1), .lit (.int .i64 (st i).2.2)] : DataW Unit))) : DataW Unit) := rfl
    rw [e] at this
    injection this with this
    exact this.symm
  have row : ∀ q, q < 8 → cs0.toList[q * 3]? = some (.int .i64 (st q).1) ∧ cs0.toList[q * 3 + 1]? = some (.int .i64 (st q).2.1) ∧ cs0.toList[q * 3 + 2]? = some (.int .i64 (st q).2.2) := by
    intro q hq
    have key := hel q hq
    rw [cells60] at key
    obtain ⟨x, hx⟩ : ∃ x, xs[q]? = some x := ⟨_, List.getElem?_eq_getElem (by omega)⟩
    rw [hx] at key
    obtain ⟨a, b, c, el, ex⟩ := step_of key
    have hq2 : (xs.map (·.1))[q]? = some x.1 := by rw [List.getElem?_map, hx]; rfl
    rw [hxs, List.getElem?_map, List.getElem?_range hq] at hq2
    simp only [Option.map_some, Option.some.injEq] at hq2
    rw [ex] at hq2
    simp only [DataW.agg.injEq, List.cons.injEq, DataW.lit.injEq, Lit.int.injEq, true_and, and_true] at hq2
    obtain ⟨h1, h2, h3⟩ := hq2
    have g : ∀ j, j < 3 → cs0.toList[q * 3 + j]? = ([.int .i64 a, .int .i64 b, .int .i64 c] : List Value)[j]? := fun j hj => by
      rw [← el, List.getElem?_take_of_lt hj, List.getElem?_drop]
    rw [h1, h2, h3]
    exact ⟨g 0 (by omega), g 1 (by omega), g 2 (by omega)⟩
  refine ⟨fun i hi => ?_⟩
  have hcell := World.var?_cell hg0 hv0 i
  rw [hcell, ← Array.getElem?_toList]
  obtain ⟨r0, r1, r2⟩ := row (i / 3) (by omega)
  rcases (show i = i / 3 * 3 ∨ i = i / 3 * 3 + 1 ∨ i = i / 3 * 3 + 2 by omega) with e | e | e
  all_goals
    have hq : i / 3 < 8 := by omega
    generalize i / 3 = q at *
    subst e
    first | rw [r0] | rw [r1] | rw [r2]
    rcases (show q = 0 ∨ q = 1 ∨ q = 2 ∨ q = 3 ∨ q = 4 ∨ q = 5 ∨ q = 6 ∨ q = 7 by omega) with rfl | rfl | rfl | rfl | rfl | rfl | rfl | rfl <;> rfl

/-- The door's own heap meets the condition: three closed facts. -/
theorem door_met (os : Os) (args : Array Value) : laidMetH Tryd.prog laid1 ((World.doorLaid Tryd.prog 400 os).forCall (fun _ _ => 0) ⟨#[], args, []⟩).memory :=
  laidMetH_of_parts3 (fuel := 8) (laidMet_of_run' 8 (by kernel_rfl) (by kernel_rfl)) (by kernel_rfl) (by kernel_rfl)

/-- Ground, opened: its two sides, its cells. -/
theorem open_grid {H : Type} {enc : TypeId × Value → H} {W : World} {b0 : Nat} {r : Reach} {v : Value} {d : DataW H} {p : List MemPlace} (hv : Value.okWide Tryd.prog W r b0 24 v) (h : DataW.Trod enc Tryd.prog W 0 (fun _ => true) true 24 v d p) :
    ∃ (gw gh : Int) (u : Value) (cs : List Int), v = .agg #[.int .i64 gw, .int .i64 gh, u] ∧ SlI W u cs ∧ cs.length ≤ 9223372036854775807 := by
  obtain ⟨c0, c1, c2, y0, y1, y2, n, rfl, -, -, h0, h1, h2⟩ := open_agg3 Tryd.underlying24 (by kernel_rfl) cells24 hv h
  obtain ⟨gw, e0, _, _⟩ := DataW.trod_int Tryd.underlying3 h0
  obtain ⟨gh, e1, _, _⟩ := DataW.trod_int Tryd.underlying3 h1
  simp at e0 e1
  subst e0 e1
  refine ⟨gw, gh, c2, ?_⟩
  rcases open_ints Tryd.underlying22 Tryd.underlying3 cells3 h2 with ⟨hc, _⟩ | ⟨a, len, cap, zs, hc, _, hl, hm, hz, _, hcell, _⟩
  · simp at hc
    subst hc
    exact ⟨[], rfl, .no _ _ rfl rfl, by simp⟩
  · simp at hc
    subst hc
    have hzl : len ≤ zs.length := by rw [hz]; simp; omega
    have hlt : (zs.take len).length = len := by simp; omega
    refine ⟨zs.take len, rfl, ?_, by rw [hlt]; unfold maxLen at hm; omega⟩
    by_cases h0 : len = 0
    · subst h0
      exact .no _ _ rfl (by simp)
    · obtain ⟨b, off, spot⟩ := a
      have k0 := hcell 0 (by omega)
      have hspot : spot = none := by simpa [Addr.add] using World.cell?_spot k0
      subst hspot
      refine .row b off cap (by rw [hlt]) (fun i hi => ?_)
      rw [hlt] at hi
      have hadd : (⟨b, off, none⟩ : Addr).add i = ⟨b, off + i, none⟩ := by unfold Addr.add; split <;> simp_all
      have := hcell i (by omega)
      rw [hadd] at this
      rw [this, List.getD_eq_getElem?_getD, List.getD_eq_getElem?_getD, List.getElem?_take_of_lt hi]

end Go.Proofs.YtekeajencihfgaaDoor
