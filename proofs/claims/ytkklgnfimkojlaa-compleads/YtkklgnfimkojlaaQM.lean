/-
  A region that draws its order, whose operations only read and whose callees may make memory of their own: one walk serves every order.
-/
import Derived.Test.YtkklgnfimkojlaaBA
import Derived.Deep.QuietTactic
namespace Go.Proofs.Ytkklgnfimkojlaa
open Go Go.RowKit

/-- A world that comes later: nothing old has turned. -/
structure Later (w0 : World) where
  w : World
  bel : Below w0.heap.size w0 w
theorem wp_region_later {P : Program} {id : Nat} {Q : Exit → Act → World → Prop} {a : Act} {w0 : World} {l : List Oper} (hm : P.follows .mixedOrders = true) (hB : Region.lexB .any l.toArray = true)
    (h : wpQuiet P l.toArray (fun w' => ∃ u : Later w0, w' = u.w) (fun a' => ∀ w', (∃ u : Later w0, w' = u.w) → Q .normal a' w') l a) : (Code.region id l.toArray true).wp P Q a w0 :=
  wp_region_quiet (C := fun w' => ∃ u : Later w0, w' = u.w) hm hB ⟨⟨w0.drew, Below.drew (Below.refl _ _)⟩, rfl⟩ (by simpa using h)
/-- A contract, met later. -/
theorem Calls.later_of {P : Program} {f : FuncId} {args : Array Value} {w0 : World} {u : Later w0} {v : Value}
    (h : Calls P f args u.w fun e w' => e = .returned v ∧ Below u.w.heap.size u.w w') : Calls P f args u.w fun e w'' => e = .returned v ∧ ∃ u' : Later w0, w'' = u'.w :=
  h.mono fun _ w' ⟨he, hb⟩ => ⟨he, ⟨w', bthen u.bel hb⟩, rfl⟩
theorem Later.cell {w0 : World} (u : Later w0) {b o : Nat} {v : Value} (h : w0.cell? ⟨b, o, none⟩ = some v) : u.w.cell? ⟨b, o, none⟩ = some v := kept u.bel h
end Go.Proofs.Ytkklgnfimkojlaa
