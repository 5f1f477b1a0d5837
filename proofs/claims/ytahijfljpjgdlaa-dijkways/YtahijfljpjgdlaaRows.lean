/-
  No cell of these rows narrows 'for every input' (looked for: loops, veiled, ifaces, maps, wideKeys, modest, calm, conditions, laid).
  DERIVED. THE GIVEN ROWS OF THIS SEAT. 7 by the template 'for every input the law returns true; each argument reads behind the call as it read before'; 0 by the template 'total and deterministic' (their statements: YtahijfljpjgdlaaTotals.lean).
  GIVEN WITH THE SEED: the statements are not yours to turn. If you find one false, say at which input.
  Laid BY PROGRAM, IN A SANDBOX (cutbox-rows.mjs): the forced cells as the released guide's own fill.sh prints them over the translation 1bfb3f5ecbeb6ed9… (all of the seat's roots in one cut). By AI agents, Wed Nov 11 2026. No macro, syntax, notation, axiom, sorry.
-/
import Derived.Test.YtahijfljpjgdlaaChecked
import GoSem.Claim
import GoSem.ClaimJoined
import GoSem.ClaimMapViews
import Derived.JoinedTies
import Derived.KernelRfl
namespace Go.Proofs.Ytahijfljpjgdlaa
/- THE CELL 'sum', in the pinned program and in every row, IS THE sha256 OF THE DUMP (.gsa) THAT YtahijfljpjgdlaaProg.lean LOADS. Nothing in Lean hashes anything: it is a label: what it is worth is what the hold of that sum in a sandbox is worth. -/
noncomputable def Try.pinned : Pinned := { name := "ytahijfljpjgdlaa", sum := "1bfb3f5ecbeb6ed9017cbbaac0f560dd22afb22cf3d81be36a54c9c9b0aff559", checked := Try.checked }
namespace Rows
def none {H : Type} : Left H := { results := [], args := [] }

/-- 'felllaw.DijkDists': WHATEVER THE INPUT: true; the input reads as it did. -/
def dijkDistsSpec : ChangeSpec := { name := "dijkDists", fn := fun _ => fun
  | [d1, d2, d3] => { results := [.lit (.bool true)], args := [d1, d2, d3] }
  | _ => none }
def dijkDistsRow : OpenClaim := { program := "ytahijfljpjgdlaa", sum := "1bfb3f5ecbeb6ed9017cbbaac0f560dd22afb22cf3d81be36a54c9c9b0aff559", func := "fellwalker/felllaw.DijkDists", spec := "dijkDists", unfollowed := true, recurses := true, apart := false }
def DijkDistsSaid : Prop := dijkDistsRow.holds Try.pinned (OpenSpec.ofChange dijkDistsSpec)

/-- ITS FALSE NEIGHBOUR: 'it returns false'. Refute it at one input. -/
def dijkDistsWrong : ChangeSpec := { name := "dijkDists", fn := fun _ => fun
  | [d1, d2, d3] => { results := [.lit (.bool false)], args := [d1, d2, d3] }
  | _ => none }
def DijkDistsWrongFalsely : Prop := dijkDistsRow.holds Try.pinned (OpenSpec.ofChange dijkDistsWrong)

/-- 'felllaw.DijkWays': WHATEVER THE INPUT: true; the input reads as it did. -/
def dijkWaysSpec : ChangeSpec := { name := "dijkWays", fn := fun _ => fun
  | [d1, d2, d3] => { results := [.lit (.bool true)], args := [d1, d2, d3] }
  | _ => none }
def dijkWaysRow : OpenClaim := { program := "ytahijfljpjgdlaa", sum := "1bfb3f5ecbeb6ed9017cbbaac0f560dd22afb22cf3d81be36a54c9c9b0aff559", func := "fellwalker/felllaw.DijkWays", spec := "dijkWays", unfollowed := true, recurses := true, apart := false }
def DijkWaysSaid : Prop := dijkWaysRow.holds Try.pinned (OpenSpec.ofChange dijkWaysSpec)

/-- ITS FALSE NEIGHBOUR: 'it returns false'. Refute it at one input. -/
def dijkWaysWrong : ChangeSpec := { name := "dijkWays", fn := fun _ => fun
  | [d1, d2, d3] => { results := [.lit (.bool false)], args := [d1, d2, d3] }
  | _ => none }
def DijkWaysWrongFalsely : Prop := dijkWaysRow.holds Try.pinned (OpenSpec.ofChange dijkWaysWrong)

/-- 'fellkeep.DijkTight': WHATEVER THE INPUT: true; the input reads as it did. -/
def dijkTightSpec : ChangeSpec := { name := "dijkTight", fn := fun _ => fun
  | [d1, d2] => { results := [.lit (.bool true)], args := [d1, d2] }
  | _ => none }
def dijkTightRow : OpenClaim := { program := "ytahijfljpjgdlaa", sum := "1bfb3f5ecbeb6ed9017cbbaac0f560dd22afb22cf3d81be36a54c9c9b0aff559", func := "fellwalker/fellkeep.DijkTight", spec := "dijkTight", unfollowed := true, recurses := true, apart := false }
def DijkTightSaid : Prop := dijkTightRow.holds Try.pinned (OpenSpec.ofChange dijkTightSpec)

/-- ITS FALSE NEIGHBOUR: 'it returns false'. Refute it at one input. -/
def dijkTightWrong : ChangeSpec := { name := "dijkTight", fn := fun _ => fun
  | [d1, d2] => { results := [.lit (.bool false)], args := [d1, d2] }
  | _ => none }
def DijkTightWrongFalsely : Prop := dijkTightRow.holds Try.pinned (OpenSpec.ofChange dijkTightWrong)

/-- 'fellkeep.DijkWalks': WHATEVER THE INPUT: true; the input reads as it did. -/
def dijkWalksSpec : ChangeSpec := { name := "dijkWalks", fn := fun _ => fun
  | [d1, d2, d3] => { results := [.lit (.bool true)], args := [d1, d2, d3] }
  | _ => none }
def dijkWalksRow : OpenClaim := { program := "ytahijfljpjgdlaa", sum := "1bfb3f5ecbeb6ed9017cbbaac0f560dd22afb22cf3d81be36a54c9c9b0aff559", func := "fellwalker/fellkeep.DijkWalks", spec := "dijkWalks", unfollowed := true, recurses := true, apart := false }
def DijkWalksSaid : Prop := dijkWalksRow.holds Try.pinned (OpenSpec.ofChange dijkWalksSpec)

/-- ITS FALSE NEIGHBOUR: 'it returns false'. Refute it at one input. -/
def dijkWalksWrong : ChangeSpec := { name := "dijkWalks", fn := fun _ => fun
  | [d1, d2, d3] => { results := [.lit (.bool false)], args := [d1, d2, d3] }
  | _ => none }
def DijkWalksWrongFalsely : Prop := dijkWalksRow.holds Try.pinned (OpenSpec.ofChange dijkWalksWrong)

/-- 'fellkeep.DijkParts': WHATEVER THE INPUT: true; the input reads as it did. -/
def dijkPartsSpec : ChangeSpec := { name := "dijkParts", fn := fun _ => fun
  | [d1, d2, d3, d4, d5] => { results := [.lit (.bool true)], args := [d1, d2, d3, d4, d5] }
  | _ => none }
def dijkPartsRow : OpenClaim := { program := "ytahijfljpjgdlaa", sum := "1bfb3f5ecbeb6ed9017cbbaac0f560dd22afb22cf3d81be36a54c9c9b0aff559", func := "fellwalker/fellkeep.DijkParts", spec := "dijkParts", unfollowed := true, recurses := true, apart := false }
def DijkPartsSaid : Prop := dijkPartsRow.holds Try.pinned (OpenSpec.ofChange dijkPartsSpec)

/-- ITS FALSE NEIGHBOUR: 'it returns false'. Refute it at one input. -/
def dijkPartsWrong : ChangeSpec := { name := "dijkParts", fn := fun _ => fun
  | [d1, d2, d3, d4, d5] => { results := [.lit (.bool false)], args := [d1, d2, d3, d4, d5] }
  | _ => none }
def DijkPartsWrongFalsely : Prop := dijkPartsRow.holds Try.pinned (OpenSpec.ofChange dijkPartsWrong)

/-- 'fellkeep.DijkTurns': WHATEVER THE INPUT: true; the input reads as it did. -/
def dijkTurnsSpec : ChangeSpec := { name := "dijkTurns", fn := fun _ => fun
  | [d1, d2, d3] => { results := [.lit (.bool true)], args := [d1, d2, d3] }
  | _ => none }
def dijkTurnsRow : OpenClaim := { program := "ytahijfljpjgdlaa", sum := "1bfb3f5ecbeb6ed9017cbbaac0f560dd22afb22cf3d81be36a54c9c9b0aff559", func := "fellwalker/fellkeep.DijkTurns", spec := "dijkTurns", unfollowed := true, recurses := true, apart := false }
def DijkTurnsSaid : Prop := dijkTurnsRow.holds Try.pinned (OpenSpec.ofChange dijkTurnsSpec)

/-- ITS FALSE NEIGHBOUR: 'it returns false'. Refute it at one input. -/
def dijkTurnsWrong : ChangeSpec := { name := "dijkTurns", fn := fun _ => fun
  | [d1, d2, d3] => { results := [.lit (.bool false)], args := [d1, d2, d3] }
  | _ => none }
def DijkTurnsWrongFalsely : Prop := dijkTurnsRow.holds Try.pinned (OpenSpec.ofChange dijkTurnsWrong)

/-- 'fellkeep.DijkMore': WHATEVER THE INPUT: true; the input reads as it did. -/
def dijkMoreSpec : ChangeSpec := { name := "dijkMore", fn := fun _ => fun
  | [d1, d2, d3] => { results := [.lit (.bool true)], args := [d1, d2, d3] }
  | _ => none }
def dijkMoreRow : OpenClaim := { program := "ytahijfljpjgdlaa", sum := "1bfb3f5ecbeb6ed9017cbbaac0f560dd22afb22cf3d81be36a54c9c9b0aff559", func := "fellwalker/fellkeep.DijkMore", spec := "dijkMore", unfollowed := true, recurses := true, apart := false }
def DijkMoreSaid : Prop := dijkMoreRow.holds Try.pinned (OpenSpec.ofChange dijkMoreSpec)

/-- ITS FALSE NEIGHBOUR: 'it returns false'. Refute it at one input. -/
def dijkMoreWrong : ChangeSpec := { name := "dijkMore", fn := fun _ => fun
  | [d1, d2, d3] => { results := [.lit (.bool false)], args := [d1, d2, d3] }
  | _ => none }
def DijkMoreWrongFalsely : Prop := dijkMoreRow.holds Try.pinned (OpenSpec.ofChange dijkMoreWrong)

/- THE SECOND FORM. 'bulk': how many values and letters a reading holds, each counted each time it is reached (what is shared counts as often as it is met; a slice's spare places count too). A statement '..UptoSaid' is the law's where the arguments, and the package variables that the reading takes, are together of bulk at most 1048576: NARROWER than '..Said'. Prove '..Said' where nothing that the law and all that it calls make is longer than what came in: it says more and counts as full. Else prove '..UptoSaid'. A law counts once. -/
mutual
def uptoBulk {H : Type} : DataW H → Nat
  | .lit (.string bytes) => bytes.length + 1
  | .lit _ => 1
  | .nil => 1
  | .ptr d => uptoBulk d + 1
  | .slice elems spare => uptoBulkAll elems + uptoBulkAll spare + 1
  | .agg parts => uptoBulkAll parts + 1
  | .iface _ d => uptoBulk d + 1
  | .map entries => uptoBulkEntries entries + 1
  | .held _ => 1
def uptoBulkAll {H : Type} : List (DataW H) → Nat
  | [] => 0
  | d :: r => uptoBulk d + uptoBulkAll r
def uptoBulkEntries {H : Type} : List (Lit × DataW H) → Nat
  | [] => 0
  | x :: r => uptoBulkEntry x + uptoBulkEntries r
def uptoBulkEntry {H : Type} : Lit × DataW H → Nat
  | (.string bytes, d) => bytes.length + uptoBulk d + 1
  | (_, d) => uptoBulk d + 1
 end
def uptoSmall : (H : Type) → List (DataW H) → Bool := fun _ ds => decide (uptoBulkAll ds ≤ 1048576)
def OpenSpec.upto (s : _root_.Go.ChangeSpec) : _root_.Go.OpenSpec := { _root_.Go.OpenSpec.ofChange s with cond := some uptoSmall }

/-- 'felllaw.DijkDists', WHERE WHAT IT READS IS OF BULK AT MOST 1048576: true; the input reads as it did. -/
def dijkDistsUptoRow : OpenClaim := { program := "ytahijfljpjgdlaa", sum := "1bfb3f5ecbeb6ed9017cbbaac0f560dd22afb22cf3d81be36a54c9c9b0aff559", func := "fellwalker/felllaw.DijkDists", spec := "dijkDists", unfollowed := true, recurses := true, apart := false, narrowed := true }
def DijkDistsUptoSaid : Prop := dijkDistsUptoRow.holds Try.pinned (OpenSpec.upto dijkDistsSpec)

/-- 'felllaw.DijkWays', WHERE WHAT IT READS IS OF BULK AT MOST 1048576: true; the input reads as it did. -/
def dijkWaysUptoRow : OpenClaim := { program := "ytahijfljpjgdlaa", sum := "1bfb3f5ecbeb6ed9017cbbaac0f560dd22afb22cf3d81be36a54c9c9b0aff559", func := "fellwalker/felllaw.DijkWays", spec := "dijkWays", unfollowed := true, recurses := true, apart := false, narrowed := true }
def DijkWaysUptoSaid : Prop := dijkWaysUptoRow.holds Try.pinned (OpenSpec.upto dijkWaysSpec)

/-- 'fellkeep.DijkTight', WHERE WHAT IT READS IS OF BULK AT MOST 1048576: true; the input reads as it did. -/
def dijkTightUptoRow : OpenClaim := { program := "ytahijfljpjgdlaa", sum := "1bfb3f5ecbeb6ed9017cbbaac0f560dd22afb22cf3d81be36a54c9c9b0aff559", func := "fellwalker/fellkeep.DijkTight", spec := "dijkTight", unfollowed := true, recurses := true, apart := false, narrowed := true }
def DijkTightUptoSaid : Prop := dijkTightUptoRow.holds Try.pinned (OpenSpec.upto dijkTightSpec)

/-- 'fellkeep.DijkWalks', WHERE WHAT IT READS IS OF BULK AT MOST 1048576: true; the input reads as it did. -/
def dijkWalksUptoRow : OpenClaim := { program := "ytahijfljpjgdlaa", sum := "1bfb3f5ecbeb6ed9017cbbaac0f560dd22afb22cf3d81be36a54c9c9b0aff559", func := "fellwalker/fellkeep.DijkWalks", spec := "dijkWalks", unfollowed := true, recurses := true, apart := false, narrowed := true }
def DijkWalksUptoSaid : Prop := dijkWalksUptoRow.holds Try.pinned (OpenSpec.upto dijkWalksSpec)

/-- 'fellkeep.DijkParts', WHERE WHAT IT READS IS OF BULK AT MOST 1048576: true; the input reads as it did. -/
def dijkPartsUptoRow : OpenClaim := { program := "ytahijfljpjgdlaa", sum := "1bfb3f5ecbeb6ed9017cbbaac0f560dd22afb22cf3d81be36a54c9c9b0aff559", func := "fellwalker/fellkeep.DijkParts", spec := "dijkParts", unfollowed := true, recurses := true, apart := false, narrowed := true }
def DijkPartsUptoSaid : Prop := dijkPartsUptoRow.holds Try.pinned (OpenSpec.upto dijkPartsSpec)

/-- 'fellkeep.DijkTurns', WHERE WHAT IT READS IS OF BULK AT MOST 1048576: true; the input reads as it did. -/
def dijkTurnsUptoRow : OpenClaim := { program := "ytahijfljpjgdlaa", sum := "1bfb3f5ecbeb6ed9017cbbaac0f560dd22afb22cf3d81be36a54c9c9b0aff559", func := "fellwalker/fellkeep.DijkTurns", spec := "dijkTurns", unfollowed := true, recurses := true, apart := false, narrowed := true }
def DijkTurnsUptoSaid : Prop := dijkTurnsUptoRow.holds Try.pinned (OpenSpec.upto dijkTurnsSpec)

/-- 'fellkeep.DijkMore', WHERE WHAT IT READS IS OF BULK AT MOST 1048576: true; the input reads as it did. -/
def dijkMoreUptoRow : OpenClaim := { program := "ytahijfljpjgdlaa", sum := "1bfb3f5ecbeb6ed9017cbbaac0f560dd22afb22cf3d81be36a54c9c9b0aff559", func := "fellwalker/fellkeep.DijkMore", spec := "dijkMore", unfollowed := true, recurses := true, apart := false, narrowed := true }
def DijkMoreUptoSaid : Prop := dijkMoreUptoRow.holds Try.pinned (OpenSpec.upto dijkMoreSpec)

end Rows
end Go.Proofs.Ytahijfljpjgdlaa
