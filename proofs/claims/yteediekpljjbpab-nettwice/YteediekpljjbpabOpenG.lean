/-
  Ground among the arguments, opened.
-/
import Derived.Test.YteediekpljjbpabDA
import Derived.ProofKit
import Derived.OpenShut
import Derived.ShutString
import Derived.ChangeOld
import Derived.ChangeSlices
import Derived.SizedLaws
import Derived.Lib.SmallJoins
namespace Go.Proofs.Yteediekpljjbpab
open Go.ChangeShapes Go.WideShapes Go.ChangeAt Go.RowKit Go.Joins Go.Deep
open Gm

theorem own : ownKnob Try.prog.godebug = none := by kernel_rfl
theorem laidOut : laidOutB Try.prog = true := by kernel_rfl
theorem cells3 : Try.prog.cellsOf 3 = 1 := by kernel_rfl
theorem cells22 : Try.prog.cellsOf 22 = 1 := by kernel_rfl
theorem cells24 : Try.prog.cellsOf 24 = 3 := by kernel_rfl

/-- Ground, opened: its two sides, its cells. -/
theorem open_grid {H : Type} {enc : TypeId × Value → H} {W : World} {b0 : Nat} {r : Reach} {v : Value} {d : DataW H} {p : List MemPlace} (hv : Value.okWide Try.prog W r b0 24 v) (h : DataW.Trod enc Try.prog W 0 (fun _ => true) true 24 v d p) :
    ∃ (gw gh : Int) (u : Value) (cs : List Int), v = .agg #[.int .i64 gw, .int .i64 gh, u] ∧ SlI W u cs ∧ cs.length ≤ 9223372036854775807 := by
  obtain ⟨c0, c1, c2, y0, y1, y2, n, rfl, -, -, h0, h1, h2⟩ := open_agg3 Try.underlying24 (by kernel_rfl) cells24 hv h
  obtain ⟨gw, e0, _, _⟩ := DataW.trod_int Try.underlying3 h0
  obtain ⟨gh, e1, _, _⟩ := DataW.trod_int Try.underlying3 h1
  simp at e0 e1
  subst e0 e1
  refine ⟨gw, gh, c2, ?_⟩
  rcases open_ints Try.underlying22 Try.underlying3 cells3 h2 with ⟨hc, _⟩ | ⟨a, len, cap, zs, hc, _, hl, hm, hz, _, hcell, _⟩
  · simp at hc
    subst hc
    exact ⟨[], rfl, .no _ _ rfl rfl, by simp⟩
  · simp at hc
    subst hc
    have hzl : len ≤ zs.length := by rw [hz]; simp; omega
    have hlt : (zs.take len).length = len := by simp; omega
    refine ⟨zs.take len, rfl, ?_, by rw [hlt]; unfold maxLen at hm; omega⟩
    by_cases h0 : len = 0
    · subst h0
      exact .no _ _ rfl (by simp)
    · obtain ⟨b, off, spot⟩ := a
      have k0 := hcell 0 (by omega)
      have hspot : spot = none := by simpa [Addr.add] using World.cell?_spot k0
      subst hspot
      refine .row b off cap (by rw [hlt]) (fun i hi => ?_)
      rw [hlt] at hi
      have hadd : (⟨b, off, none⟩ : Addr).add i = ⟨b, off + i, none⟩ := by unfold Addr.add; split <;> simp_all
      have := hcell i (by omega)
      rw [hadd] at this
      rw [this, List.getD_eq_getElem?_getD, List.getD_eq_getElem?_getD, List.getElem?_take_of_lt hi]

end Go.Proofs.Yteediekpljjbpab
