/-
  Contract: heur.Of, whatever is handed in.
-/
import Derived.Test.YtefikbjjdldomaaEN
import Derived.Test.YtefikbjjdldomaaPx
namespace Go.Proofs.Ytefikbjjdldomaa
open Go.RowKit
open _root_.Go.Proofs.Ytefikbjjdldomaa.Nm Wm Dm Sk

/-- What heur.Of answers, by its parts. -/
def Ofp (w' : World) (n t : Int) (es : List E) (p : List Int) (x : Value) (er : Int) : Prop :=
  er ≠ 0 ∨ (er = 0 ∧ mrk n es p = 0 ∧ plc n t = true ∧ SlI w' x (lst n.toNat (grt n.toNat es p t.toNat)))
theorem of_uni (n t : Int) (v u : Value) (es : List E) (p : List Int) (w : World) (hv : SlE w v es) (hu : SlI w u p) (hlen : es.length ≤ 9223372036854775807) (hl : p.length ≤ 9223372036854775807) :
    Calls Try.prog 30 #[.agg #[.int .i64 n, v], u, .int .i64 t] w fun e w' => ∃ ar lr cr er, e = .returned (.tuple #[.slice ar lr cr, .int .i64 er]) ∧ Ofp w' n t es p (.slice ar lr cr) er ∧ Below w.heap.size w w' := by
  by_cases hc : mrk n es p = 0
  · obtain ⟨N, rfl, hp, hnp, h4, hpl⟩ := mrk_good hc
    cases ht : plc N t with
    | false =>
      exact (of_arg N t v u es p w hv hu hlen hl hc ht).mono fun e w' hb => ⟨none, 0, 0, 1, hb.1, .inl (by decide), hb.2⟩
    | true =>
      obtain ⟨T, rfl, hT⟩ := plc_nat ht
      have hTN : T < N := by omega
      refine (of_yes N T v u es p w hv hu hlen hl hc hTN).mono ?_
      rintro e w' ⟨G, rfl, ur, hb⟩
      exact ⟨_, _, _, 0, rfl, .inr ⟨rfl, hc, ht, by simpa using ur.sl⟩, hb⟩
  · exact (of_marks n t v u es p w hv hu hlen hl hc).mono fun e w' hb => ⟨none, 0, 0, _, hb.1, .inl hc, hb.2⟩
end Go.Proofs.Ytefikbjjdldomaa
