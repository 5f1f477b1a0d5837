/-
  No cell of these rows narrows 'for every input' (looked for: loops, veiled, ifaces, maps, wideKeys, modest, calm, conditions, laid).
  DERIVED. THE GIVEN ROWS OF THIS SEAT. 7 by the template 'for every input the law returns true; each argument reads behind the call as it read before'; 0 by the template 'total and deterministic' (their statements: YtkbebdanpgaehaaTotals.lean).
  GIVEN WITH THE SEED: the statements are not yours to turn. If you find one false, say at which input.
  Laid BY PROGRAM, IN A SANDBOX (cutbox-rows.mjs): the forced cells as the released guide's own fill.sh prints them over the translation 68f7167347ed62f5… (all of the seat's roots in one cut). By AI agents, Wed Nov 11 2026. No macro, syntax, notation, axiom, sorry.
-/
import Derived.Test.YtkbebdanpgaehaaChecked
import GoSem.Claim
import GoSem.ClaimJoined
import GoSem.ClaimMapViews
import Derived.JoinedTies
import Derived.KernelRfl
namespace Go.Proofs.Ytkbebdanpgaehaa
/- THE CELL 'sum', in the pinned program and in every row, IS THE sha256 OF THE DUMP (.gsa) THAT YtkbebdanpgaehaaProg.lean LOADS. Nothing in Lean hashes anything: it is a label: what it is worth is what the hold of that sum in a sandbox is worth. -/
noncomputable def Try.pinned : Pinned := { name := "ytkbebdanpgaehaa", sum := "68f7167347ed62f5aeb912d32f93836cff9406774a02b76f51d5dac249c3d5f8", checked := Try.checked }
namespace Rows
def none {H : Type} : Left H := { results := [], args := [] }

/-- 'felllaw.HeurChecks': WHATEVER THE INPUT: true; the input reads as it did. -/
def heurChecksSpec : ChangeSpec := { name := "heurChecks", fn := fun _ => fun
  | [d1, d2, d3] => { results := [.lit (.bool true)], args := [d1, d2, d3] }
  | _ => none }
def heurChecksRow : OpenClaim := { program := "ytkbebdanpgaehaa", sum := "68f7167347ed62f5aeb912d32f93836cff9406774a02b76f51d5dac249c3d5f8", func := "fellwalker/felllaw.HeurChecks", spec := "heurChecks", unfollowed := true, recurses := true, apart := false }
def HeurChecksSaid : Prop := heurChecksRow.holds Try.pinned (OpenSpec.ofChange heurChecksSpec)

/-- ITS FALSE NEIGHBOUR: 'it returns false'. Refute it at one input. -/
def heurChecksWrong : ChangeSpec := { name := "heurChecks", fn := fun _ => fun
  | [d1, d2, d3] => { results := [.lit (.bool false)], args := [d1, d2, d3] }
  | _ => none }
def HeurChecksWrongFalsely : Prop := heurChecksRow.holds Try.pinned (OpenSpec.ofChange heurChecksWrong)

/-- 'felllaw.HeurMarks': WHATEVER THE INPUT: true; the input reads as it did. -/
def heurMarksSpec : ChangeSpec := { name := "heurMarks", fn := fun _ => fun
  | [d1, d2] => { results := [.lit (.bool true)], args := [d1, d2] }
  | _ => none }
def heurMarksRow : OpenClaim := { program := "ytkbebdanpgaehaa", sum := "68f7167347ed62f5aeb912d32f93836cff9406774a02b76f51d5dac249c3d5f8", func := "fellwalker/felllaw.HeurMarks", spec := "heurMarks", unfollowed := true, recurses := true, apart := false }
def HeurMarksSaid : Prop := heurMarksRow.holds Try.pinned (OpenSpec.ofChange heurMarksSpec)

/-- ITS FALSE NEIGHBOUR: 'it returns false'. Refute it at one input. -/
def heurMarksWrong : ChangeSpec := { name := "heurMarks", fn := fun _ => fun
  | [d1, d2] => { results := [.lit (.bool false)], args := [d1, d2] }
  | _ => none }
def HeurMarksWrongFalsely : Prop := heurMarksRow.holds Try.pinned (OpenSpec.ofChange heurMarksWrong)

/-- 'felllaw.HeurBounds': WHATEVER THE INPUT: true; the input reads as it did. -/
def heurBoundsSpec : ChangeSpec := { name := "heurBounds", fn := fun _ => fun
  | [d1, d2, d3, d4] => { results := [.lit (.bool true)], args := [d1, d2, d3, d4] }
  | _ => none }
def heurBoundsRow : OpenClaim := { program := "ytkbebdanpgaehaa", sum := "68f7167347ed62f5aeb912d32f93836cff9406774a02b76f51d5dac249c3d5f8", func := "fellwalker/felllaw.HeurBounds", spec := "heurBounds", unfollowed := true, recurses := true, apart := false }
def HeurBoundsSaid : Prop := heurBoundsRow.holds Try.pinned (OpenSpec.ofChange heurBoundsSpec)

/-- ITS FALSE NEIGHBOUR: 'it returns false'. Refute it at one input. -/
def heurBoundsWrong : ChangeSpec := { name := "heurBounds", fn := fun _ => fun
  | [d1, d2, d3, d4] => { results := [.lit (.bool false)], args := [d1, d2, d3, d4] }
  | _ => none }
def HeurBoundsWrongFalsely : Prop := heurBoundsRow.holds Try.pinned (OpenSpec.ofChange heurBoundsWrong)

/-- 'felllaw.HeurOfs': WHATEVER THE INPUT: true; the input reads as it did. -/
def heurOfsSpec : ChangeSpec := { name := "heurOfs", fn := fun _ => fun
  | [d1, d2, d3] => { results := [.lit (.bool true)], args := [d1, d2, d3] }
  | _ => none }
def heurOfsRow : OpenClaim := { program := "ytkbebdanpgaehaa", sum := "68f7167347ed62f5aeb912d32f93836cff9406774a02b76f51d5dac249c3d5f8", func := "fellwalker/felllaw.HeurOfs", spec := "heurOfs", unfollowed := true, recurses := true, apart := false }
def HeurOfsSaid : Prop := heurOfsRow.holds Try.pinned (OpenSpec.ofChange heurOfsSpec)

/-- ITS FALSE NEIGHBOUR: 'it returns false'. Refute it at one input. -/
def heurOfsWrong : ChangeSpec := { name := "heurOfs", fn := fun _ => fun
  | [d1, d2, d3] => { results := [.lit (.bool false)], args := [d1, d2, d3] }
  | _ => none }
def HeurOfsWrongFalsely : Prop := heurOfsRow.holds Try.pinned (OpenSpec.ofChange heurOfsWrong)

/-- 'fellkeep.HeurLess': WHATEVER THE INPUT: true; the input reads as it did. -/
def heurLessSpec : ChangeSpec := { name := "heurLess", fn := fun _ => fun
  | [d1, d2, d3] => { results := [.lit (.bool true)], args := [d1, d2, d3] }
  | _ => none }
def heurLessRow : OpenClaim := { program := "ytkbebdanpgaehaa", sum := "68f7167347ed62f5aeb912d32f93836cff9406774a02b76f51d5dac249c3d5f8", func := "fellwalker/fellkeep.HeurLess", spec := "heurLess", unfollowed := true, recurses := true, apart := false }
def HeurLessSaid : Prop := heurLessRow.holds Try.pinned (OpenSpec.ofChange heurLessSpec)

/-- ITS FALSE NEIGHBOUR: 'it returns false'. Refute it at one input. -/
def heurLessWrong : ChangeSpec := { name := "heurLess", fn := fun _ => fun
  | [d1, d2, d3] => { results := [.lit (.bool false)], args := [d1, d2, d3] }
  | _ => none }
def HeurLessWrongFalsely : Prop := heurLessRow.holds Try.pinned (OpenSpec.ofChange heurLessWrong)

/-- 'fellkeep.HeurMore': WHATEVER THE INPUT: true; the input reads as it did. -/
def heurMoreSpec : ChangeSpec := { name := "heurMore", fn := fun _ => fun
  | [d1, d2, d3, d4] => { results := [.lit (.bool true)], args := [d1, d2, d3, d4] }
  | _ => none }
def heurMoreRow : OpenClaim := { program := "ytkbebdanpgaehaa", sum := "68f7167347ed62f5aeb912d32f93836cff9406774a02b76f51d5dac249c3d5f8", func := "fellwalker/fellkeep.HeurMore", spec := "heurMore", unfollowed := true, recurses := true, apart := false }
def HeurMoreSaid : Prop := heurMoreRow.holds Try.pinned (OpenSpec.ofChange heurMoreSpec)

/-- ITS FALSE NEIGHBOUR: 'it returns false'. Refute it at one input. -/
def heurMoreWrong : ChangeSpec := { name := "heurMore", fn := fun _ => fun
  | [d1, d2, d3, d4] => { results := [.lit (.bool false)], args := [d1, d2, d3, d4] }
  | _ => none }
def HeurMoreWrongFalsely : Prop := heurMoreRow.holds Try.pinned (OpenSpec.ofChange heurMoreWrong)

/-- 'fellkeep.HeurGreatest': WHATEVER THE INPUT: true; the input reads as it did. -/
def heurGreatestSpec : ChangeSpec := { name := "heurGreatest", fn := fun _ => fun
  | [d1, d2, d3, d4] => { results := [.lit (.bool true)], args := [d1, d2, d3, d4] }
  | _ => none }
def heurGreatestRow : OpenClaim := { program := "ytkbebdanpgaehaa", sum := "68f7167347ed62f5aeb912d32f93836cff9406774a02b76f51d5dac249c3d5f8", func := "fellwalker/fellkeep.HeurGreatest", spec := "heurGreatest", unfollowed := true, recurses := true, apart := false }
def HeurGreatestSaid : Prop := heurGreatestRow.holds Try.pinned (OpenSpec.ofChange heurGreatestSpec)

/-- ITS FALSE NEIGHBOUR: 'it returns false'. Refute it at one input. -/
def heurGreatestWrong : ChangeSpec := { name := "heurGreatest", fn := fun _ => fun
  | [d1, d2, d3, d4] => { results := [.lit (.bool false)], args := [d1, d2, d3, d4] }
  | _ => none }
def HeurGreatestWrongFalsely : Prop := heurGreatestRow.holds Try.pinned (OpenSpec.ofChange heurGreatestWrong)

/- THE SECOND FORM. 'bulk': how many values and letters a reading holds, each counted each time it is reached (what is shared counts as often as it is met; a slice's spare places count too). A statement '..UptoSaid' is the law's where the arguments, and the package variables that the reading takes, are together of bulk at most 1048576: NARROWER than '..Said'. Prove '..Said' where nothing that the law and all that it calls make is longer than what came in: it says more and counts as full. Else prove '..UptoSaid'. A law counts once. -/
mutual
def uptoBulk {H : Type} : DataW H → Nat
  | .lit (.string bytes) => bytes.length + 1
  | .lit _ => 1
  | .nil => 1
  | .ptr d => uptoBulk d + 1
  | .slice elems spare => uptoBulkAll elems + uptoBulkAll spare + 1
  | .agg parts => uptoBulkAll parts + 1
  | .iface _ d => uptoBulk d + 1
  | .map entries => uptoBulkEntries entries + 1
  | .held _ => 1
def uptoBulkAll {H : Type} : List (DataW H) → Nat
  | [] => 0
  | d :: r => uptoBulk d + uptoBulkAll r
def uptoBulkEntries {H : Type} : List (Lit × DataW H) → Nat
  | [] => 0
  | x :: r => uptoBulkEntry x + uptoBulkEntries r
def uptoBulkEntry {H : Type} : Lit × DataW H → Nat
  | (.string bytes, d) => bytes.length + uptoBulk d + 1
  | (_, d) => uptoBulk d + 1
 end
def uptoSmall : (H : Type) → List (DataW H) → Bool := fun _ ds => decide (uptoBulkAll ds ≤ 1048576)
def OpenSpec.upto (s : _root_.Go.ChangeSpec) : _root_.Go.OpenSpec := { _root_.Go.OpenSpec.ofChange s with cond := some uptoSmall }

/-- 'felllaw.HeurChecks', WHERE WHAT IT READS IS OF BULK AT MOST 1048576: true; the input reads as it did. -/
def heurChecksUptoRow : OpenClaim := { program := "ytkbebdanpgaehaa", sum := "68f7167347ed62f5aeb912d32f93836cff9406774a02b76f51d5dac249c3d5f8", func := "fellwalker/felllaw.HeurChecks", spec := "heurChecks", unfollowed := true, recurses := true, apart := false, narrowed := true }
def HeurChecksUptoSaid : Prop := heurChecksUptoRow.holds Try.pinned (OpenSpec.upto heurChecksSpec)

/-- 'felllaw.HeurMarks', WHERE WHAT IT READS IS OF BULK AT MOST 1048576: true; the input reads as it did. -/
def heurMarksUptoRow : OpenClaim := { program := "ytkbebdanpgaehaa", sum := "68f7167347ed62f5aeb912d32f93836cff9406774a02b76f51d5dac249c3d5f8", func := "fellwalker/felllaw.HeurMarks", spec := "heurMarks", unfollowed := true, recurses := true, apart := false, narrowed := true }
def HeurMarksUptoSaid : Prop := heurMarksUptoRow.holds Try.pinned (OpenSpec.upto heurMarksSpec)

/-- 'felllaw.HeurBounds', WHERE WHAT IT READS IS OF BULK AT MOST 1048576: true; the input reads as it did. -/
def heurBoundsUptoRow : OpenClaim := { program := "ytkbebdanpgaehaa", sum := "68f7167347ed62f5aeb912d32f93836cff9406774a02b76f51d5dac249c3d5f8", func := "fellwalker/felllaw.HeurBounds", spec := "heurBounds", unfollowed := true, recurses := true, apart := false, narrowed := true }
def HeurBoundsUptoSaid : Prop := heurBoundsUptoRow.holds Try.pinned (OpenSpec.upto heurBoundsSpec)

/-- 'felllaw.HeurOfs', WHERE WHAT IT READS IS OF BULK AT MOST 1048576: true; the input reads as it did. -/
def heurOfsUptoRow : OpenClaim := { program := "ytkbebdanpgaehaa", sum := "68f7167347ed62f5aeb912d32f93836cff9406774a02b76f51d5dac249c3d5f8", func := "fellwalker/felllaw.HeurOfs", spec := "heurOfs", unfollowed := true, recurses := true, apart := false, narrowed := true }
def HeurOfsUptoSaid : Prop := heurOfsUptoRow.holds Try.pinned (OpenSpec.upto heurOfsSpec)

/-- 'fellkeep.HeurLess', WHERE WHAT IT READS IS OF BULK AT MOST 1048576: true; the input reads as it did. -/
def heurLessUptoRow : OpenClaim := { program := "ytkbebdanpgaehaa", sum := "68f7167347ed62f5aeb912d32f93836cff9406774a02b76f51d5dac249c3d5f8", func := "fellwalker/fellkeep.HeurLess", spec := "heurLess", unfollowed := true, recurses := true, apart := false, narrowed := true }
def HeurLessUptoSaid : Prop := heurLessUptoRow.holds Try.pinned (OpenSpec.upto heurLessSpec)

/-- 'fellkeep.HeurMore', WHERE WHAT IT READS IS OF BULK AT MOST 1048576: true; the input reads as it did. -/
def heurMoreUptoRow : OpenClaim := { program := "ytkbebdanpgaehaa", sum := "68f7167347ed62f5aeb912d32f93836cff9406774a02b76f51d5dac249c3d5f8", func := "fellwalker/fellkeep.HeurMore", spec := "heurMore", unfollowed := true, recurses := true, apart := false, narrowed := true }
def HeurMoreUptoSaid : Prop := heurMoreUptoRow.holds Try.pinned (OpenSpec.upto heurMoreSpec)

/-- 'fellkeep.HeurGreatest', WHERE WHAT IT READS IS OF BULK AT MOST 1048576: true; the input reads as it did. -/
def heurGreatestUptoRow : OpenClaim := { program := "ytkbebdanpgaehaa", sum := "68f7167347ed62f5aeb912d32f93836cff9406774a02b76f51d5dac249c3d5f8", func := "fellwalker/fellkeep.HeurGreatest", spec := "heurGreatest", unfollowed := true, recurses := true, apart := false, narrowed := true }
def HeurGreatestUptoSaid : Prop := heurGreatestUptoRow.holds Try.pinned (OpenSpec.upto heurGreatestSpec)

end Rows
end Go.Proofs.Ytkbebdanpgaehaa
