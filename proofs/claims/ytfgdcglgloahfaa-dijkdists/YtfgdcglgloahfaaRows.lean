/-
  No cell of these rows narrows 'for every input' (looked for: loops, veiled, ifaces, maps, wideKeys, modest, calm, conditions, laid).
  DERIVED. THE GIVEN ROWS OF THIS SEAT. 6 by the template 'for every input the law returns true; each argument reads behind the call as it read before'; 0 by the template 'total and deterministic' (their statements: YtfgdcglgloahfaaTotals.lean).
  GIVEN WITH THE SEED: the statements are not yours to turn. If you find one false, say at which input.
  Laid BY PROGRAM, IN A SANDBOX (cutbox-rows.mjs): the forced cells as the released guide's own fill.sh prints them over the translation 0e35fc7f570669d9… (all of the seat's roots in one cut). By AI agents, Wed Nov 11 2026. No macro, syntax, notation, axiom, sorry.
-/
import Derived.Test.YtfgdcglgloahfaaChecked
import GoSem.Claim
import GoSem.ClaimJoined
import GoSem.ClaimMapViews
import Derived.JoinedTies
import Derived.KernelRfl
namespace Go.Proofs.Ytfgdcglgloahfaa
/- THE CELL 'sum', in the pinned program and in every row, IS THE sha256 OF THE DUMP (.gsa) THAT YtfgdcglgloahfaaProg.lean LOADS. Nothing in Lean hashes anything: it is a label: what it is worth is what the hold of that sum in a sandbox is worth. -/
noncomputable def Try.pinned : Pinned := { name := "ytfgdcglgloahfaa", sum := "0e35fc7f570669d9593ccefcd61818916cf3bf5b3903a761f6c2f8910845f695", checked := Try.checked }
namespace Rows
def none {H : Type} : Left H := { results := [], args := [] }

/-- 'felllaw.WalkCosts': WHATEVER THE INPUT: true; the input reads as it did. -/
def walkCostsSpec : ChangeSpec := { name := "walkCosts", fn := fun _ => fun
  | [d1, d2] => { results := [.lit (.bool true)], args := [d1, d2] }
  | _ => none }
def walkCostsRow : OpenClaim := { program := "ytfgdcglgloahfaa", sum := "0e35fc7f570669d9593ccefcd61818916cf3bf5b3903a761f6c2f8910845f695", func := "fellwalker/felllaw.WalkCosts", spec := "walkCosts", apart := false }
def WalkCostsSaid : Prop := walkCostsRow.holds Try.pinned (OpenSpec.ofChange walkCostsSpec)

/-- ITS FALSE NEIGHBOUR: 'it returns false'. Refute it at one input. -/
def walkCostsWrong : ChangeSpec := { name := "walkCosts", fn := fun _ => fun
  | [d1, d2] => { results := [.lit (.bool false)], args := [d1, d2] }
  | _ => none }
def WalkCostsWrongFalsely : Prop := walkCostsRow.holds Try.pinned (OpenSpec.ofChange walkCostsWrong)

/-- 'felllaw.WalkCuts': WHATEVER THE INPUT: true; the input reads as it did. -/
def walkCutsSpec : ChangeSpec := { name := "walkCuts", fn := fun _ => fun
  | [d1, d2] => { results := [.lit (.bool true)], args := [d1, d2] }
  | _ => none }
def walkCutsRow : OpenClaim := { program := "ytfgdcglgloahfaa", sum := "0e35fc7f570669d9593ccefcd61818916cf3bf5b3903a761f6c2f8910845f695", func := "fellwalker/felllaw.WalkCuts", spec := "walkCuts", recurses := true, apart := false }
def WalkCutsSaid : Prop := walkCutsRow.holds Try.pinned (OpenSpec.ofChange walkCutsSpec)

/-- ITS FALSE NEIGHBOUR: 'it returns false'. Refute it at one input. -/
def walkCutsWrong : ChangeSpec := { name := "walkCuts", fn := fun _ => fun
  | [d1, d2] => { results := [.lit (.bool false)], args := [d1, d2] }
  | _ => none }
def WalkCutsWrongFalsely : Prop := walkCutsRow.holds Try.pinned (OpenSpec.ofChange walkCutsWrong)

/-- 'felllaw.DijkDists': WHATEVER THE INPUT: true; the input reads as it did. -/
def dijkDistsSpec : ChangeSpec := { name := "dijkDists", fn := fun _ => fun
  | [d1, d2, d3] => { results := [.lit (.bool true)], args := [d1, d2, d3] }
  | _ => none }
def dijkDistsRow : OpenClaim := { program := "ytfgdcglgloahfaa", sum := "0e35fc7f570669d9593ccefcd61818916cf3bf5b3903a761f6c2f8910845f695", func := "fellwalker/felllaw.DijkDists", spec := "dijkDists", unfollowed := true, recurses := true, apart := false }
def DijkDistsSaid : Prop := dijkDistsRow.holds Try.pinned (OpenSpec.ofChange dijkDistsSpec)

/-- ITS FALSE NEIGHBOUR: 'it returns false'. Refute it at one input. -/
def dijkDistsWrong : ChangeSpec := { name := "dijkDists", fn := fun _ => fun
  | [d1, d2, d3] => { results := [.lit (.bool false)], args := [d1, d2, d3] }
  | _ => none }
def DijkDistsWrongFalsely : Prop := dijkDistsRow.holds Try.pinned (OpenSpec.ofChange dijkDistsWrong)

/-- 'felllaw.DijkWays': WHATEVER THE INPUT: true; the input reads as it did. -/
def dijkWaysSpec : ChangeSpec := { name := "dijkWays", fn := fun _ => fun
  | [d1, d2, d3] => { results := [.lit (.bool true)], args := [d1, d2, d3] }
  | _ => none }
def dijkWaysRow : OpenClaim := { program := "ytfgdcglgloahfaa", sum := "0e35fc7f570669d9593ccefcd61818916cf3bf5b3903a761f6c2f8910845f695", func := "fellwalker/felllaw.DijkWays", spec := "dijkWays", unfollowed := true, recurses := true, apart := false }
def DijkWaysSaid : Prop := dijkWaysRow.holds Try.pinned (OpenSpec.ofChange dijkWaysSpec)

/-- ITS FALSE NEIGHBOUR: 'it returns false'. Refute it at one input. -/
def dijkWaysWrong : ChangeSpec := { name := "dijkWays", fn := fun _ => fun
  | [d1, d2, d3] => { results := [.lit (.bool false)], args := [d1, d2, d3] }
  | _ => none }
def DijkWaysWrongFalsely : Prop := dijkWaysRow.holds Try.pinned (OpenSpec.ofChange dijkWaysWrong)

/-- 'fellkeep.WalkParts': WHATEVER THE INPUT: true; the input reads as it did. -/
def walkPartsSpec : ChangeSpec := { name := "walkParts", fn := fun _ => fun
  | [d1, d2, d3] => { results := [.lit (.bool true)], args := [d1, d2, d3] }
  | _ => none }
def walkPartsRow : OpenClaim := { program := "ytfgdcglgloahfaa", sum := "0e35fc7f570669d9593ccefcd61818916cf3bf5b3903a761f6c2f8910845f695", func := "fellwalker/fellkeep.WalkParts", spec := "walkParts", apart := false }
def WalkPartsSaid : Prop := walkPartsRow.holds Try.pinned (OpenSpec.ofChange walkPartsSpec)

/-- ITS FALSE NEIGHBOUR: 'it returns false'. Refute it at one input. -/
def walkPartsWrong : ChangeSpec := { name := "walkParts", fn := fun _ => fun
  | [d1, d2, d3] => { results := [.lit (.bool false)], args := [d1, d2, d3] }
  | _ => none }
def WalkPartsWrongFalsely : Prop := walkPartsRow.holds Try.pinned (OpenSpec.ofChange walkPartsWrong)

/-- 'fellkeep.WalkBack': WHATEVER THE INPUT: true; the input reads as it did. -/
def walkBackSpec : ChangeSpec := { name := "walkBack", fn := fun _ => fun
  | [d1, d2] => { results := [.lit (.bool true)], args := [d1, d2] }
  | _ => none }
def walkBackRow : OpenClaim := { program := "ytfgdcglgloahfaa", sum := "0e35fc7f570669d9593ccefcd61818916cf3bf5b3903a761f6c2f8910845f695", func := "fellwalker/fellkeep.WalkBack", spec := "walkBack", apart := false }
def WalkBackSaid : Prop := walkBackRow.holds Try.pinned (OpenSpec.ofChange walkBackSpec)

/-- ITS FALSE NEIGHBOUR: 'it returns false'. Refute it at one input. -/
def walkBackWrong : ChangeSpec := { name := "walkBack", fn := fun _ => fun
  | [d1, d2] => { results := [.lit (.bool false)], args := [d1, d2] }
  | _ => none }
def WalkBackWrongFalsely : Prop := walkBackRow.holds Try.pinned (OpenSpec.ofChange walkBackWrong)

/- THE SECOND FORM. 'bulk': how many values and letters a reading holds, each counted each time it is reached (what is shared counts as often as it is met; a slice's spare places count too). A statement '..UptoSaid' is the law's where the arguments, and the package variables that the reading takes, are together of bulk at most 1048576: NARROWER than '..Said'. Prove '..Said' where nothing that the law and all that it calls make is longer than what came in: it says more and counts as full. Else prove '..UptoSaid'. A law counts once. -/
mutual
def uptoBulk {H : Type} : DataW H → Nat
  | .lit (.string bytes) => bytes.length + 1
  | .lit _ => 1
  | .nil => 1
  | .ptr d => uptoBulk d + 1
  | .slice elems spare => uptoBulkAll elems + uptoBulkAll spare + 1
  | .agg parts => uptoBulkAll parts + 1
  | .iface _ d => uptoBulk d + 1
  | .map entries => uptoBulkEntries entries + 1
  | .held _ => 1
def uptoBulkAll {H : Type} : List (DataW H) → Nat
  | [] => 0
  | d :: r => uptoBulk d + uptoBulkAll r
def uptoBulkEntries {H : Type} : List (Lit × DataW H) → Nat
  | [] => 0
  | x :: r => uptoBulkEntry x + uptoBulkEntries r
def uptoBulkEntry {H : Type} : Lit × DataW H → Nat
  | (.string bytes, d) => bytes.length + uptoBulk d + 1
  | (_, d) => uptoBulk d + 1
 end
def uptoSmall : (H : Type) → List (DataW H) → Bool := fun _ ds => decide (uptoBulkAll ds ≤ 1048576)
def OpenSpec.upto (s : _root_.Go.ChangeSpec) : _root_.Go.OpenSpec := { _root_.Go.OpenSpec.ofChange s with cond := some uptoSmall }

/-- 'felllaw.WalkCosts', WHERE WHAT IT READS IS OF BULK AT MOST 1048576: true; the input reads as it did. -/
def walkCostsUptoRow : OpenClaim := { program := "ytfgdcglgloahfaa", sum := "0e35fc7f570669d9593ccefcd61818916cf3bf5b3903a761f6c2f8910845f695", func := "fellwalker/felllaw.WalkCosts", spec := "walkCosts", apart := false, narrowed := true }
def WalkCostsUptoSaid : Prop := walkCostsUptoRow.holds Try.pinned (OpenSpec.upto walkCostsSpec)

/-- 'felllaw.WalkCuts', WHERE WHAT IT READS IS OF BULK AT MOST 1048576: true; the input reads as it did. -/
def walkCutsUptoRow : OpenClaim := { program := "ytfgdcglgloahfaa", sum := "0e35fc7f570669d9593ccefcd61818916cf3bf5b3903a761f6c2f8910845f695", func := "fellwalker/felllaw.WalkCuts", spec := "walkCuts", recurses := true, apart := false, narrowed := true }
def WalkCutsUptoSaid : Prop := walkCutsUptoRow.holds Try.pinned (OpenSpec.upto walkCutsSpec)

/-- 'felllaw.DijkDists', WHERE WHAT IT READS IS OF BULK AT MOST 1048576: true; the input reads as it did. -/
def dijkDistsUptoRow : OpenClaim := { program := "ytfgdcglgloahfaa", sum := "0e35fc7f570669d9593ccefcd61818916cf3bf5b3903a761f6c2f8910845f695", func := "fellwalker/felllaw.DijkDists", spec := "dijkDists", unfollowed := true, recurses := true, apart := false, narrowed := true }
def DijkDistsUptoSaid : Prop := dijkDistsUptoRow.holds Try.pinned (OpenSpec.upto dijkDistsSpec)

/-- 'felllaw.DijkWays', WHERE WHAT IT READS IS OF BULK AT MOST 1048576: true; the input reads as it did. -/
def dijkWaysUptoRow : OpenClaim := { program := "ytfgdcglgloahfaa", sum := "0e35fc7f570669d9593ccefcd61818916cf3bf5b3903a761f6c2f8910845f695", func := "fellwalker/felllaw.DijkWays", spec := "dijkWays", unfollowed := true, recurses := true, apart := false, narrowed := true }
def DijkWaysUptoSaid : Prop := dijkWaysUptoRow.holds Try.pinned (OpenSpec.upto dijkWaysSpec)

/-- 'fellkeep.WalkParts', WHERE WHAT IT READS IS OF BULK AT MOST 1048576: true; the input reads as it did. -/
def walkPartsUptoRow : OpenClaim := { program := "ytfgdcglgloahfaa", sum := "0e35fc7f570669d9593ccefcd61818916cf3bf5b3903a761f6c2f8910845f695", func := "fellwalker/fellkeep.WalkParts", spec := "walkParts", apart := false, narrowed := true }
def WalkPartsUptoSaid : Prop := walkPartsUptoRow.holds Try.pinned (OpenSpec.upto walkPartsSpec)

/-- 'fellkeep.WalkBack', WHERE WHAT IT READS IS OF BULK AT MOST 1048576: true; the input reads as it did. -/
def walkBackUptoRow : OpenClaim := { program := "ytfgdcglgloahfaa", sum := "0e35fc7f570669d9593ccefcd61818916cf3bf5b3903a761f6c2f8910845f695", func := "fellwalker/fellkeep.WalkBack", spec := "walkBack", apart := false, narrowed := true }
def WalkBackUptoSaid : Prop := walkBackUptoRow.holds Try.pinned (OpenSpec.upto walkBackSpec)

end Rows
end Go.Proofs.Ytfgdcglgloahfaa
