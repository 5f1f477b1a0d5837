/-
  A key that is given as a function value.
-/
import Derived.Test.YtefikbjjdldomaaBA
namespace Go.Proofs.Ytefikbjjdldomaa
open Go.RowKit

/-- What a function value says of what it costs and a guess. -/
structure Ky (w0 : World) (kn : Nat) (lb : Array Value) (f : Int → Int → Int) : Prop where
  ent : ∀ args w, (callFunc kn args).run Try.prog w = .ok (.enter kn args) w
  gives : ∀ (W : World) (c g : Int), Below w0.heap.size w0 W → 0 ≤ c → c ≤ 1099511627776 → 0 ≤ g → g ≤ 1099511627776 → Calls Try.prog kn (#[.int .i64 c, .int .i64 g] ++ lb) W fun e w' => e = .returned (.int .i64 (f c g)) ∧ ∃ q, w' = W.drewN q
end Go.Proofs.Ytefikbjjdldomaa
