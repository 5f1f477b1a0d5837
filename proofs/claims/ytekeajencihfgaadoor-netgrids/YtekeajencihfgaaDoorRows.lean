/-
  NARROWER THAN 'FOR EVERY INPUT', by the rows' own cells (each row's printed sentence says how): NetGrids: laid · NetGround: laid.
  DERIVED. THE GIVEN ROWS OF THIS SEAT. 2 by the template 'for every input the law returns true; each argument reads behind the call as it read before'; 0 by the template 'total and deterministic' (their statements: YtekeajencihfgaaDoorTotals.lean).
  GIVEN WITH THE SEED: the statements are not yours to turn. If you find one false, say at which input.
  Laid BY PROGRAM, IN A SANDBOX (cutbox-rows.mjs): the forced cells as the released guide's own fill.sh prints them over the translation aec3d7017345e07c… (all of the seat's roots in one cut). By AI agents, Wed Nov 11 2026. No macro, syntax, notation, axiom, sorry.
-/
import Derived.Test.YtekeajencihfgaaDoorChecked
import GoSem.Claim
import GoSem.ClaimJoined
import GoSem.ClaimMapViews
import Derived.JoinedTies
import Derived.KernelRfl
namespace Go.Proofs.YtekeajencihfgaaDoor
/- THE CELL 'sum', in the pinned program and in every row, IS THE sha256 OF THE DUMP (.gsa) THAT YtekeajencihfgaaDoorProg.lean LOADS. Nothing in Lean hashes anything: it is a label: what it is worth is what the hold of that sum in a sandbox is worth. -/
noncomputable def Tryd.pinned : Pinned := { name := "ytekeajencihfgaadoor", sum := "aec3d7017345e07cb89d100991ddb3aced180064b4d376522ab5b9ac0441b322", checked := Tryd.checked }
namespace Rows
def none {H : Type} : Left H := { results := [], args := [] }

/- WHAT THE LISTED PACKAGE-LEVEL VARIABLES READ AS WHEN THE CALL BEGINS. Each datum BY PROGRAM (the guide's laid-datum.mjs) off the statement by which the dump's own 'gosem.cut.vars' lays the variable. In a bare row this is a premise. The card (YtekeajencihfgaaDoorCards.lean) ties it to the program's text. -/
def laid_fellwalker_grid_steps {H : Type} : DataW H := .agg [.agg [.lit (.int .i64 0), .lit (.int .i64 (-1)), .lit (.int .i64 5)], .agg [.lit (.int .i64 1), .lit (.int .i64 (-1)), .lit (.int .i64 7)], .agg [.lit (.int .i64 1), .lit (.int .i64 0), .lit (.int .i64 5)], .agg [.lit (.int .i64 1), .lit (.int .i64 1), .lit (.int .i64 7)], .agg [.lit (.int .i64 0), .lit (.int .i64 1), .lit (.int .i64 5)], .agg [.lit (.int .i64 (-1)), .lit (.int .i64 1), .lit (.int .i64 7)], .agg [.lit (.int .i64 (-1)), .lit (.int .i64 0), .lit (.int .i64 5)], .agg [.lit (.int .i64 (-1)), .lit (.int .i64 (-1)), .lit (.int .i64 7)]]

/-- 'felllaw.NetGrids': WHATEVER THE INPUT: true; the input reads as it did. -/
def netGridsSpec : ChangeSpec := { name := "netGrids", fn := fun _ => fun
  | [d] => { results := [.lit (.bool true)], args := [d] }
  | _ => none }
def netGridsRow : OpenClaim := { program := "ytekeajencihfgaadoor", sum := "aec3d7017345e07cb89d100991ddb3aced180064b4d376522ab5b9ac0441b322", func := "fellwalker/felllaw.NetGrids", spec := "netGrids", named := ["fellwalker/grid.steps"], apart := false, laid := [("fellwalker/grid.steps", laid_fellwalker_grid_steps)] }
def NetGridsSaid : Prop := netGridsRow.holds Tryd.pinned (OpenSpec.ofChange netGridsSpec)

/-- ITS FALSE NEIGHBOUR: 'it returns false'. Refute it at one input. -/
def netGridsWrong : ChangeSpec := { name := "netGrids", fn := fun _ => fun
  | [d] => { results := [.lit (.bool false)], args := [d] }
  | _ => none }
def NetGridsWrongFalsely : Prop := netGridsRow.holds Tryd.pinned (OpenSpec.ofChange netGridsWrong)

/-- 'fellkeep.NetGround': WHATEVER THE INPUT: true; the input reads as it did. -/
def netGroundSpec : ChangeSpec := { name := "netGround", fn := fun _ => fun
  | [d] => { results := [.lit (.bool true)], args := [d] }
  | _ => none }
def netGroundRow : OpenClaim := { program := "ytekeajencihfgaadoor", sum := "aec3d7017345e07cb89d100991ddb3aced180064b4d376522ab5b9ac0441b322", func := "fellwalker/fellkeep.NetGround", spec := "netGround", unfollowed := true, recurses := true, named := ["fellwalker/grid.steps"], apart := false, laid := [("fellwalker/grid.steps", laid_fellwalker_grid_steps)] }
def NetGroundSaid : Prop := netGroundRow.holds Tryd.pinned (OpenSpec.ofChange netGroundSpec)

/-- ITS FALSE NEIGHBOUR: 'it returns false'. Refute it at one input. -/
def netGroundWrong : ChangeSpec := { name := "netGround", fn := fun _ => fun
  | [d] => { results := [.lit (.bool false)], args := [d] }
  | _ => none }
def NetGroundWrongFalsely : Prop := netGroundRow.holds Tryd.pinned (OpenSpec.ofChange netGroundWrong)

/- THE SECOND FORM. 'bulk': how many values and letters a reading holds, each counted each time it is reached (what is shared counts as often as it is met; a slice's spare places count too). A statement '..UptoSaid' is the law's where the arguments, and the package variables that the reading takes, are together of bulk at most 1048576: NARROWER than '..Said'. Prove '..Said' where nothing that the law and all that it calls make is longer than what came in: it says more and counts as full. Else prove '..UptoSaid'. A law counts once. -/
mutual
def uptoBulk {H : Type} : DataW H → Nat
  | .lit (.string bytes) => bytes.length + 1
  | .lit _ => 1
  | .nil => 1
  | .ptr d => uptoBulk d + 1
  | .slice elems spare => uptoBulkAll elems + uptoBulkAll spare + 1
  | .agg parts => uptoBulkAll parts + 1
  | .iface _ d => uptoBulk d + 1
  | .map entries => uptoBulkEntries entries + 1
  | .held _ => 1
def uptoBulkAll {H : Type} : List (DataW H) → Nat
  | [] => 0
  | d :: r => uptoBulk d + uptoBulkAll r
def uptoBulkEntries {H : Type} : List (Lit × DataW H) → Nat
  | [] => 0
  | x :: r => uptoBulkEntry x + uptoBulkEntries r
def uptoBulkEntry {H : Type} : Lit × DataW H → Nat
  | (.string bytes, d) => bytes.length + uptoBulk d + 1
  | (_, d) => uptoBulk d + 1
 end
def uptoSmall : (H : Type) → List (DataW H) → Bool := fun _ ds => decide (uptoBulkAll ds ≤ 1048576)
def OpenSpec.upto (s : _root_.Go.ChangeSpec) : _root_.Go.OpenSpec := { _root_.Go.OpenSpec.ofChange s with cond := some uptoSmall }

/-- 'felllaw.NetGrids', WHERE WHAT IT READS IS OF BULK AT MOST 1048576: true; the input reads as it did. -/
def netGridsUptoRow : OpenClaim := { program := "ytekeajencihfgaadoor", sum := "aec3d7017345e07cb89d100991ddb3aced180064b4d376522ab5b9ac0441b322", func := "fellwalker/felllaw.NetGrids", spec := "netGrids", named := ["fellwalker/grid.steps"], apart := false, laid := [("fellwalker/grid.steps", laid_fellwalker_grid_steps)], narrowed := true }
def NetGridsUptoSaid : Prop := netGridsUptoRow.holds Tryd.pinned (OpenSpec.upto netGridsSpec)

/-- 'fellkeep.NetGround', WHERE WHAT IT READS IS OF BULK AT MOST 1048576: true; the input reads as it did. -/
def netGroundUptoRow : OpenClaim := { program := "ytekeajencihfgaadoor", sum := "aec3d7017345e07cb89d100991ddb3aced180064b4d376522ab5b9ac0441b322", func := "fellwalker/fellkeep.NetGround", spec := "netGround", unfollowed := true, recurses := true, named := ["fellwalker/grid.steps"], apart := false, laid := [("fellwalker/grid.steps", laid_fellwalker_grid_steps)], narrowed := true }
def NetGroundUptoSaid : Prop := netGroundUptoRow.holds Tryd.pinned (OpenSpec.upto netGroundSpec)

end Rows
end Go.Proofs.YtekeajencihfgaaDoor
