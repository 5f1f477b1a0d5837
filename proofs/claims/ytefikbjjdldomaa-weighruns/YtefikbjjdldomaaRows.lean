/-
  No cell of these rows narrows 'for every input' (looked for: loops, veiled, ifaces, maps, wideKeys, modest, calm, conditions, laid).
  DERIVED. THE GIVEN ROWS OF THIS SEAT. 8 by the template 'for every input the law returns true; each argument reads behind the call as it read before'; 0 by the template 'total and deterministic' (their statements: YtefikbjjdldomaaTotals.lean).
  GIVEN WITH THE SEED: the statements are not yours to turn. If you find one false, say at which input.
  Laid BY PROGRAM, IN A SANDBOX (cutbox-rows.mjs): the forced cells as the released guide's own fill.sh prints them over the translation 08cb03db1f51665c… (all of the seat's roots in one cut). By AI agents, Wed Nov 11 2026. No macro, syntax, notation, axiom, sorry.
-/
import Derived.Test.YtefikbjjdldomaaChecked
import GoSem.Claim
import GoSem.ClaimJoined
import GoSem.ClaimMapViews
import Derived.JoinedTies
import Derived.KernelRfl
namespace Go.Proofs.Ytefikbjjdldomaa
/- THE CELL 'sum', in the pinned program and in every row, IS THE sha256 OF THE DUMP (.gsa) THAT YtefikbjjdldomaaProg.lean LOADS. Nothing in Lean hashes anything: it is a label: what it is worth is what the hold of that sum in a sandbox is worth. -/
noncomputable def Try.pinned : Pinned := { name := "ytefikbjjdldomaa", sum := "08cb03db1f51665c6e5c687e6f2e2a71195d904c38e76088ce607f5e1bd1dfc5", checked := Try.checked }
namespace Rows
def none {H : Type} : Left H := { results := [], args := [] }

/-- 'felllaw.StarRuns': WHATEVER THE INPUT: true; the input reads as it did. -/
def starRunsSpec : ChangeSpec := { name := "starRuns", fn := fun _ => fun
  | [d1, d2, d3, d4] => { results := [.lit (.bool true)], args := [d1, d2, d3, d4] }
  | _ => none }
def starRunsRow : OpenClaim := { program := "ytefikbjjdldomaa", sum := "08cb03db1f51665c6e5c687e6f2e2a71195d904c38e76088ce607f5e1bd1dfc5", func := "fellwalker/felllaw.StarRuns", spec := "starRuns", unfollowed := true, recurses := true, apart := false }
def StarRunsSaid : Prop := starRunsRow.holds Try.pinned (OpenSpec.ofChange starRunsSpec)

/-- ITS FALSE NEIGHBOUR: 'it returns false'. Refute it at one input. -/
def starRunsWrong : ChangeSpec := { name := "starRuns", fn := fun _ => fun
  | [d1, d2, d3, d4] => { results := [.lit (.bool false)], args := [d1, d2, d3, d4] }
  | _ => none }
def StarRunsWrongFalsely : Prop := starRunsRow.holds Try.pinned (OpenSpec.ofChange starRunsWrong)

/-- 'felllaw.WeighRuns': WHATEVER THE INPUT: true; the input reads as it did. -/
def weighRunsSpec : ChangeSpec := { name := "weighRuns", fn := fun _ => fun
  | [d1, d2, d3, d4, d5] => { results := [.lit (.bool true)], args := [d1, d2, d3, d4, d5] }
  | _ => none }
def weighRunsRow : OpenClaim := { program := "ytefikbjjdldomaa", sum := "08cb03db1f51665c6e5c687e6f2e2a71195d904c38e76088ce607f5e1bd1dfc5", func := "fellwalker/felllaw.WeighRuns", spec := "weighRuns", unfollowed := true, recurses := true, apart := false }
def WeighRunsSaid : Prop := weighRunsRow.holds Try.pinned (OpenSpec.ofChange weighRunsSpec)

/-- ITS FALSE NEIGHBOUR: 'it returns false'. Refute it at one input. -/
def weighRunsWrong : ChangeSpec := { name := "weighRuns", fn := fun _ => fun
  | [d1, d2, d3, d4, d5] => { results := [.lit (.bool false)], args := [d1, d2, d3, d4, d5] }
  | _ => none }
def WeighRunsWrongFalsely : Prop := weighRunsRow.holds Try.pinned (OpenSpec.ofChange weighRunsWrong)

/-- 'fellkeep.StarLeast': WHATEVER THE INPUT: true; the input reads as it did. -/
def starLeastSpec : ChangeSpec := { name := "starLeast", fn := fun _ => fun
  | [d1, d2, d3, d4] => { results := [.lit (.bool true)], args := [d1, d2, d3, d4] }
  | _ => none }
def starLeastRow : OpenClaim := { program := "ytefikbjjdldomaa", sum := "08cb03db1f51665c6e5c687e6f2e2a71195d904c38e76088ce607f5e1bd1dfc5", func := "fellwalker/fellkeep.StarLeast", spec := "starLeast", unfollowed := true, recurses := true, apart := false }
def StarLeastSaid : Prop := starLeastRow.holds Try.pinned (OpenSpec.ofChange starLeastSpec)

/-- ITS FALSE NEIGHBOUR: 'it returns false'. Refute it at one input. -/
def starLeastWrong : ChangeSpec := { name := "starLeast", fn := fun _ => fun
  | [d1, d2, d3, d4] => { results := [.lit (.bool false)], args := [d1, d2, d3, d4] }
  | _ => none }
def StarLeastWrongFalsely : Prop := starLeastRow.holds Try.pinned (OpenSpec.ofChange starLeastWrong)

/-- 'fellkeep.StarPlain': WHATEVER THE INPUT: true; the input reads as it did. -/
def starPlainSpec : ChangeSpec := { name := "starPlain", fn := fun _ => fun
  | [d1, d2, d3] => { results := [.lit (.bool true)], args := [d1, d2, d3] }
  | _ => none }
def starPlainRow : OpenClaim := { program := "ytefikbjjdldomaa", sum := "08cb03db1f51665c6e5c687e6f2e2a71195d904c38e76088ce607f5e1bd1dfc5", func := "fellwalker/fellkeep.StarPlain", spec := "starPlain", unfollowed := true, recurses := true, apart := false }
def StarPlainSaid : Prop := starPlainRow.holds Try.pinned (OpenSpec.ofChange starPlainSpec)

/-- ITS FALSE NEIGHBOUR: 'it returns false'. Refute it at one input. -/
def starPlainWrong : ChangeSpec := { name := "starPlain", fn := fun _ => fun
  | [d1, d2, d3] => { results := [.lit (.bool false)], args := [d1, d2, d3] }
  | _ => none }
def StarPlainWrongFalsely : Prop := starPlainRow.holds Try.pinned (OpenSpec.ofChange starPlainWrong)

/-- 'fellkeep.StarSpares': WHATEVER THE INPUT: true; the input reads as it did. -/
def starSparesSpec : ChangeSpec := { name := "starSpares", fn := fun _ => fun
  | [d1, d2, d3, d4] => { results := [.lit (.bool true)], args := [d1, d2, d3, d4] }
  | _ => none }
def starSparesRow : OpenClaim := { program := "ytefikbjjdldomaa", sum := "08cb03db1f51665c6e5c687e6f2e2a71195d904c38e76088ce607f5e1bd1dfc5", func := "fellwalker/fellkeep.StarSpares", spec := "starSpares", unfollowed := true, recurses := true, apart := false }
def StarSparesSaid : Prop := starSparesRow.holds Try.pinned (OpenSpec.ofChange starSparesSpec)

/-- ITS FALSE NEIGHBOUR: 'it returns false'. Refute it at one input. -/
def starSparesWrong : ChangeSpec := { name := "starSpares", fn := fun _ => fun
  | [d1, d2, d3, d4] => { results := [.lit (.bool false)], args := [d1, d2, d3, d4] }
  | _ => none }
def StarSparesWrongFalsely : Prop := starSparesRow.holds Try.pinned (OpenSpec.ofChange starSparesWrong)

/-- 'fellkeep.WeighBound': WHATEVER THE INPUT: true; the input reads as it did. -/
def weighBoundSpec : ChangeSpec := { name := "weighBound", fn := fun _ => fun
  | [d1, d2, d3, d4, d5] => { results := [.lit (.bool true)], args := [d1, d2, d3, d4, d5] }
  | _ => none }
def weighBoundRow : OpenClaim := { program := "ytefikbjjdldomaa", sum := "08cb03db1f51665c6e5c687e6f2e2a71195d904c38e76088ce607f5e1bd1dfc5", func := "fellwalker/fellkeep.WeighBound", spec := "weighBound", unfollowed := true, recurses := true, apart := false }
def WeighBoundSaid : Prop := weighBoundRow.holds Try.pinned (OpenSpec.ofChange weighBoundSpec)

/-- ITS FALSE NEIGHBOUR: 'it returns false'. Refute it at one input. -/
def weighBoundWrong : ChangeSpec := { name := "weighBound", fn := fun _ => fun
  | [d1, d2, d3, d4, d5] => { results := [.lit (.bool false)], args := [d1, d2, d3, d4, d5] }
  | _ => none }
def WeighBoundWrongFalsely : Prop := weighBoundRow.holds Try.pinned (OpenSpec.ofChange weighBoundWrong)

/-- 'fellkeep.WeighOne': WHATEVER THE INPUT: true; the input reads as it did. -/
def weighOneSpec : ChangeSpec := { name := "weighOne", fn := fun _ => fun
  | [d1, d2, d3, d4, d5] => { results := [.lit (.bool true)], args := [d1, d2, d3, d4, d5] }
  | _ => none }
def weighOneRow : OpenClaim := { program := "ytefikbjjdldomaa", sum := "08cb03db1f51665c6e5c687e6f2e2a71195d904c38e76088ce607f5e1bd1dfc5", func := "fellwalker/fellkeep.WeighOne", spec := "weighOne", unfollowed := true, recurses := true, apart := false }
def WeighOneSaid : Prop := weighOneRow.holds Try.pinned (OpenSpec.ofChange weighOneSpec)

/-- ITS FALSE NEIGHBOUR: 'it returns false'. Refute it at one input. -/
def weighOneWrong : ChangeSpec := { name := "weighOne", fn := fun _ => fun
  | [d1, d2, d3, d4, d5] => { results := [.lit (.bool false)], args := [d1, d2, d3, d4, d5] }
  | _ => none }
def WeighOneWrongFalsely : Prop := weighOneRow.holds Try.pinned (OpenSpec.ofChange weighOneWrong)

/-- 'felltop.TopMarks': WHATEVER THE INPUT: true; the input reads as it did. -/
def topMarksSpec : ChangeSpec := { name := "topMarks", fn := fun _ => fun
  | [d1, d2, d3, d4] => { results := [.lit (.bool true)], args := [d1, d2, d3, d4] }
  | _ => none }
def topMarksRow : OpenClaim := { program := "ytefikbjjdldomaa", sum := "08cb03db1f51665c6e5c687e6f2e2a71195d904c38e76088ce607f5e1bd1dfc5", func := "fellwalker/felltop.TopMarks", spec := "topMarks", unfollowed := true, recurses := true, apart := false }
def TopMarksSaid : Prop := topMarksRow.holds Try.pinned (OpenSpec.ofChange topMarksSpec)

/-- ITS FALSE NEIGHBOUR: 'it returns false'. Refute it at one input. -/
def topMarksWrong : ChangeSpec := { name := "topMarks", fn := fun _ => fun
  | [d1, d2, d3, d4] => { results := [.lit (.bool false)], args := [d1, d2, d3, d4] }
  | _ => none }
def TopMarksWrongFalsely : Prop := topMarksRow.holds Try.pinned (OpenSpec.ofChange topMarksWrong)

/- THE SECOND FORM. 'bulk': how many values and letters a reading holds, each counted each time it is reached (what is shared counts as often as it is met; a slice's spare places count too). A statement '..UptoSaid' is the law's where the arguments, and the package variables that the reading takes, are together of bulk at most 1048576: NARROWER than '..Said'. Prove '..Said' where nothing that the law and all that it calls make is longer than what came in: it says more and counts as full. Else prove '..UptoSaid'. A law counts once. -/
mutual
def uptoBulk {H : Type} : DataW H → Nat
  | .lit (.string bytes) => bytes.length + 1
  | .lit _ => 1
  | .nil => 1
  | .ptr d => uptoBulk d + 1
  | .slice elems spare => uptoBulkAll elems + uptoBulkAll spare + 1
  | .agg parts => uptoBulkAll parts + 1
  | .iface _ d => uptoBulk d + 1
  | .map entries => uptoBulkEntries entries + 1
  | .held _ => 1
def uptoBulkAll {H : Type} : List (DataW H) → Nat
  | [] => 0
  | d :: r => uptoBulk d + uptoBulkAll r
def uptoBulkEntries {H : Type} : List (Lit × DataW H) → Nat
  | [] => 0
  | x :: r => uptoBulkEntry x + uptoBulkEntries r
def uptoBulkEntry {H : Type} : Lit × DataW H → Nat
  | (.string bytes, d) => bytes.length + uptoBulk d + 1
  | (_, d) => uptoBulk d + 1
 end
def uptoSmall : (H : Type) → List (DataW H) → Bool := fun _ ds => decide (uptoBulkAll ds ≤ 1048576)
def OpenSpec.upto (s : _root_.Go.ChangeSpec) : _root_.Go.OpenSpec := { _root_.Go.OpenSpec.ofChange s with cond := some uptoSmall }

/-- 'felllaw.StarRuns', WHERE WHAT IT READS IS OF BULK AT MOST 1048576: true; the input reads as it did. -/
def starRunsUptoRow : OpenClaim := { program := "ytefikbjjdldomaa", sum := "08cb03db1f51665c6e5c687e6f2e2a71195d904c38e76088ce607f5e1bd1dfc5", func := "fellwalker/felllaw.StarRuns", spec := "starRuns", unfollowed := true, recurses := true, apart := false, narrowed := true }
def StarRunsUptoSaid : Prop := starRunsUptoRow.holds Try.pinned (OpenSpec.upto starRunsSpec)

/-- 'felllaw.WeighRuns', WHERE WHAT IT READS IS OF BULK AT MOST 1048576: true; the input reads as it did. -/
def weighRunsUptoRow : OpenClaim := { program := "ytefikbjjdldomaa", sum := "08cb03db1f51665c6e5c687e6f2e2a71195d904c38e76088ce607f5e1bd1dfc5", func := "fellwalker/felllaw.WeighRuns", spec := "weighRuns", unfollowed := true, recurses := true, apart := false, narrowed := true }
def WeighRunsUptoSaid : Prop := weighRunsUptoRow.holds Try.pinned (OpenSpec.upto weighRunsSpec)

/-- 'fellkeep.StarLeast', WHERE WHAT IT READS IS OF BULK AT MOST 1048576: true; the input reads as it did. -/
def starLeastUptoRow : OpenClaim := { program := "ytefikbjjdldomaa", sum := "08cb03db1f51665c6e5c687e6f2e2a71195d904c38e76088ce607f5e1bd1dfc5", func := "fellwalker/fellkeep.StarLeast", spec := "starLeast", unfollowed := true, recurses := true, apart := false, narrowed := true }
def StarLeastUptoSaid : Prop := starLeastUptoRow.holds Try.pinned (OpenSpec.upto starLeastSpec)

/-- 'fellkeep.StarPlain', WHERE WHAT IT READS IS OF BULK AT MOST 1048576: true; the input reads as it did. -/
def starPlainUptoRow : OpenClaim := { program := "ytefikbjjdldomaa", sum := "08cb03db1f51665c6e5c687e6f2e2a71195d904c38e76088ce607f5e1bd1dfc5", func := "fellwalker/fellkeep.StarPlain", spec := "starPlain", unfollowed := true, recurses := true, apart := false, narrowed := true }
def StarPlainUptoSaid : Prop := starPlainUptoRow.holds Try.pinned (OpenSpec.upto starPlainSpec)

/-- 'fellkeep.StarSpares', WHERE WHAT IT READS IS OF BULK AT MOST 1048576: true; the input reads as it did. -/
def starSparesUptoRow : OpenClaim := { program := "ytefikbjjdldomaa", sum := "08cb03db1f51665c6e5c687e6f2e2a71195d904c38e76088ce607f5e1bd1dfc5", func := "fellwalker/fellkeep.StarSpares", spec := "starSpares", unfollowed := true, recurses := true, apart := false, narrowed := true }
def StarSparesUptoSaid : Prop := starSparesUptoRow.holds Try.pinned (OpenSpec.upto starSparesSpec)

/-- 'fellkeep.WeighBound', WHERE WHAT IT READS IS OF BULK AT MOST 1048576: true; the input reads as it did. -/
def weighBoundUptoRow : OpenClaim := { program := "ytefikbjjdldomaa", sum := "08cb03db1f51665c6e5c687e6f2e2a71195d904c38e76088ce607f5e1bd1dfc5", func := "fellwalker/fellkeep.WeighBound", spec := "weighBound", unfollowed := true, recurses := true, apart := false, narrowed := true }
def WeighBoundUptoSaid : Prop := weighBoundUptoRow.holds Try.pinned (OpenSpec.upto weighBoundSpec)

/-- 'fellkeep.WeighOne', WHERE WHAT IT READS IS OF BULK AT MOST 1048576: true; the input reads as it did. -/
def weighOneUptoRow : OpenClaim := { program := "ytefikbjjdldomaa", sum := "08cb03db1f51665c6e5c687e6f2e2a71195d904c38e76088ce607f5e1bd1dfc5", func := "fellwalker/fellkeep.WeighOne", spec := "weighOne", unfollowed := true, recurses := true, apart := false, narrowed := true }
def WeighOneUptoSaid : Prop := weighOneUptoRow.holds Try.pinned (OpenSpec.upto weighOneSpec)

/-- 'felltop.TopMarks', WHERE WHAT IT READS IS OF BULK AT MOST 1048576: true; the input reads as it did. -/
def topMarksUptoRow : OpenClaim := { program := "ytefikbjjdldomaa", sum := "08cb03db1f51665c6e5c687e6f2e2a71195d904c38e76088ce607f5e1bd1dfc5", func := "fellwalker/felltop.TopMarks", spec := "topMarks", unfollowed := true, recurses := true, apart := false, narrowed := true }
def TopMarksUptoSaid : Prop := topMarksUptoRow.holds Try.pinned (OpenSpec.upto topMarksSpec)

end Rows
end Go.Proofs.Ytefikbjjdldomaa
