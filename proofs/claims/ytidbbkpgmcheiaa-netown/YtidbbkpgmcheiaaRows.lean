/-
  No cell of these rows narrows 'for every input' (looked for: loops, veiled, ifaces, maps, wideKeys, modest, calm, conditions, laid).
  DERIVED. THE GIVEN ROWS OF THIS SEAT. 10 by the template 'for every input the law returns true; each argument reads behind the call as it read before'; 0 by the template 'total and deterministic' (their statements: YtidbbkpgmcheiaaTotals.lean).
  GIVEN WITH THE SEED: the statements are not yours to turn. If you find one false, say at which input.
  Laid BY PROGRAM, IN A SANDBOX (cutbox-rows.mjs): the forced cells as the released guide's own fill.sh prints them over the translation 9b74d3b04fcc4d9d… (all of the seat's roots in one cut). By AI agents, Wed Nov 11 2026. No macro, syntax, notation, axiom, sorry.
-/
import Derived.Test.YtidbbkpgmcheiaaChecked
import GoSem.Claim
import GoSem.ClaimJoined
import GoSem.ClaimMapViews
import Derived.JoinedTies
import Derived.KernelRfl
namespace Go.Proofs.Ytidbbkpgmcheiaa
/- THE CELL 'sum', in the pinned program and in every row, IS THE sha256 OF THE DUMP (.gsa) THAT YtidbbkpgmcheiaaProg.lean LOADS. Nothing in Lean hashes anything: it is a label: what it is worth is what the hold of that sum in a sandbox is worth. -/
noncomputable def Try.pinned : Pinned := { name := "ytidbbkpgmcheiaa", sum := "9b74d3b04fcc4d9d3d501c96f6e91b66209a5de1517b50b93b324c0825058252", checked := Try.checked }
namespace Rows
def none {H : Type} : Left H := { results := [], args := [] }

/-- 'felllaw.BellDists': WHATEVER THE INPUT: true; the input reads as it did. -/
def bellDistsSpec : ChangeSpec := { name := "bellDists", fn := fun _ => fun
  | [d1, d2] => { results := [.lit (.bool true)], args := [d1, d2] }
  | _ => none }
def bellDistsRow : OpenClaim := { program := "ytidbbkpgmcheiaa", sum := "9b74d3b04fcc4d9d3d501c96f6e91b66209a5de1517b50b93b324c0825058252", func := "fellwalker/felllaw.BellDists", spec := "bellDists", apart := false }
def BellDistsSaid : Prop := bellDistsRow.holds Try.pinned (OpenSpec.ofChange bellDistsSpec)

/-- ITS FALSE NEIGHBOUR: 'it returns false'. Refute it at one input. -/
def bellDistsWrong : ChangeSpec := { name := "bellDists", fn := fun _ => fun
  | [d1, d2] => { results := [.lit (.bool false)], args := [d1, d2] }
  | _ => none }
def BellDistsWrongFalsely : Prop := bellDistsRow.holds Try.pinned (OpenSpec.ofChange bellDistsWrong)

/-- 'felllaw.BellCycles': WHATEVER THE INPUT: true; the input reads as it did. -/
def bellCyclesSpec : ChangeSpec := { name := "bellCycles", fn := fun _ => fun
  | [d] => { results := [.lit (.bool true)], args := [d] }
  | _ => none }
def bellCyclesRow : OpenClaim := { program := "ytidbbkpgmcheiaa", sum := "9b74d3b04fcc4d9d3d501c96f6e91b66209a5de1517b50b93b324c0825058252", func := "fellwalker/felllaw.BellCycles", spec := "bellCycles", apart := false }
def BellCyclesSaid : Prop := bellCyclesRow.holds Try.pinned (OpenSpec.ofChange bellCyclesSpec)

/-- ITS FALSE NEIGHBOUR: 'it returns false'. Refute it at one input. -/
def bellCyclesWrong : ChangeSpec := { name := "bellCycles", fn := fun _ => fun
  | [d] => { results := [.lit (.bool false)], args := [d] }
  | _ => none }
def BellCyclesWrongFalsely : Prop := bellCyclesRow.holds Try.pinned (OpenSpec.ofChange bellCyclesWrong)

/-- 'felllaw.JohnLifts': WHATEVER THE INPUT: true; the input reads as it did. -/
def johnLiftsSpec : ChangeSpec := { name := "johnLifts", fn := fun _ => fun
  | [d] => { results := [.lit (.bool true)], args := [d] }
  | _ => none }
def johnLiftsRow : OpenClaim := { program := "ytidbbkpgmcheiaa", sum := "9b74d3b04fcc4d9d3d501c96f6e91b66209a5de1517b50b93b324c0825058252", func := "fellwalker/felllaw.JohnLifts", spec := "johnLifts", apart := false }
def JohnLiftsSaid : Prop := johnLiftsRow.holds Try.pinned (OpenSpec.ofChange johnLiftsSpec)

/-- ITS FALSE NEIGHBOUR: 'it returns false'. Refute it at one input. -/
def johnLiftsWrong : ChangeSpec := { name := "johnLifts", fn := fun _ => fun
  | [d] => { results := [.lit (.bool false)], args := [d] }
  | _ => none }
def JohnLiftsWrongFalsely : Prop := johnLiftsRow.holds Try.pinned (OpenSpec.ofChange johnLiftsWrong)

/-- 'felllaw.JohnFlats': WHATEVER THE INPUT: true; the input reads as it did. -/
def johnFlatsSpec : ChangeSpec := { name := "johnFlats", fn := fun _ => fun
  | [d1, d2] => { results := [.lit (.bool true)], args := [d1, d2] }
  | _ => none }
def johnFlatsRow : OpenClaim := { program := "ytidbbkpgmcheiaa", sum := "9b74d3b04fcc4d9d3d501c96f6e91b66209a5de1517b50b93b324c0825058252", func := "fellwalker/felllaw.JohnFlats", spec := "johnFlats", apart := false }
def JohnFlatsSaid : Prop := johnFlatsRow.holds Try.pinned (OpenSpec.ofChange johnFlatsSpec)

/-- ITS FALSE NEIGHBOUR: 'it returns false'. Refute it at one input. -/
def johnFlatsWrong : ChangeSpec := { name := "johnFlats", fn := fun _ => fun
  | [d1, d2] => { results := [.lit (.bool false)], args := [d1, d2] }
  | _ => none }
def JohnFlatsWrongFalsely : Prop := johnFlatsRow.holds Try.pinned (OpenSpec.ofChange johnFlatsWrong)

/-- 'felllaw.JohnAlls': WHATEVER THE INPUT: true; the input reads as it did. -/
def johnAllsSpec : ChangeSpec := { name := "johnAlls", fn := fun _ => fun
  | [d] => { results := [.lit (.bool true)], args := [d] }
  | _ => none }
def johnAllsRow : OpenClaim := { program := "ytidbbkpgmcheiaa", sum := "9b74d3b04fcc4d9d3d501c96f6e91b66209a5de1517b50b93b324c0825058252", func := "fellwalker/felllaw.JohnAlls", spec := "johnAlls", unfollowed := true, recurses := true, apart := false }
def JohnAllsSaid : Prop := johnAllsRow.holds Try.pinned (OpenSpec.ofChange johnAllsSpec)

/-- ITS FALSE NEIGHBOUR: 'it returns false'. Refute it at one input. -/
def johnAllsWrong : ChangeSpec := { name := "johnAlls", fn := fun _ => fun
  | [d] => { results := [.lit (.bool false)], args := [d] }
  | _ => none }
def JohnAllsWrongFalsely : Prop := johnAllsRow.holds Try.pinned (OpenSpec.ofChange johnAllsWrong)

/-- 'fellkeep.BellSame': WHATEVER THE INPUT: true; the input reads as it did. -/
def bellSameSpec : ChangeSpec := { name := "bellSame", fn := fun _ => fun
  | [d1, d2] => { results := [.lit (.bool true)], args := [d1, d2] }
  | _ => none }
def bellSameRow : OpenClaim := { program := "ytidbbkpgmcheiaa", sum := "9b74d3b04fcc4d9d3d501c96f6e91b66209a5de1517b50b93b324c0825058252", func := "fellwalker/fellkeep.BellSame", spec := "bellSame", unfollowed := true, recurses := true, apart := false }
def BellSameSaid : Prop := bellSameRow.holds Try.pinned (OpenSpec.ofChange bellSameSpec)

/-- ITS FALSE NEIGHBOUR: 'it returns false'. Refute it at one input. -/
def bellSameWrong : ChangeSpec := { name := "bellSame", fn := fun _ => fun
  | [d1, d2] => { results := [.lit (.bool false)], args := [d1, d2] }
  | _ => none }
def BellSameWrongFalsely : Prop := bellSameRow.holds Try.pinned (OpenSpec.ofChange bellSameWrong)

/-- 'fellkeep.BellTight': WHATEVER THE INPUT: true; the input reads as it did. -/
def bellTightSpec : ChangeSpec := { name := "bellTight", fn := fun _ => fun
  | [d1, d2] => { results := [.lit (.bool true)], args := [d1, d2] }
  | _ => none }
def bellTightRow : OpenClaim := { program := "ytidbbkpgmcheiaa", sum := "9b74d3b04fcc4d9d3d501c96f6e91b66209a5de1517b50b93b324c0825058252", func := "fellwalker/fellkeep.BellTight", spec := "bellTight", unfollowed := true, recurses := true, apart := false }
def BellTightSaid : Prop := bellTightRow.holds Try.pinned (OpenSpec.ofChange bellTightSpec)

/-- ITS FALSE NEIGHBOUR: 'it returns false'. Refute it at one input. -/
def bellTightWrong : ChangeSpec := { name := "bellTight", fn := fun _ => fun
  | [d1, d2] => { results := [.lit (.bool false)], args := [d1, d2] }
  | _ => none }
def BellTightWrongFalsely : Prop := bellTightRow.holds Try.pinned (OpenSpec.ofChange bellTightWrong)

/-- 'fellkeep.BellEither': WHATEVER THE INPUT: true; the input reads as it did. -/
def bellEitherSpec : ChangeSpec := { name := "bellEither", fn := fun _ => fun
  | [d] => { results := [.lit (.bool true)], args := [d] }
  | _ => none }
def bellEitherRow : OpenClaim := { program := "ytidbbkpgmcheiaa", sum := "9b74d3b04fcc4d9d3d501c96f6e91b66209a5de1517b50b93b324c0825058252", func := "fellwalker/fellkeep.BellEither", spec := "bellEither", unfollowed := true, recurses := true, apart := false }
def BellEitherSaid : Prop := bellEitherRow.holds Try.pinned (OpenSpec.ofChange bellEitherSpec)

/-- ITS FALSE NEIGHBOUR: 'it returns false'. Refute it at one input. -/
def bellEitherWrong : ChangeSpec := { name := "bellEither", fn := fun _ => fun
  | [d] => { results := [.lit (.bool false)], args := [d] }
  | _ => none }
def BellEitherWrongFalsely : Prop := bellEitherRow.holds Try.pinned (OpenSpec.ofChange bellEitherWrong)

/-- 'fellkeep.JohnShifts': WHATEVER THE INPUT: true; the input reads as it did. -/
def johnShiftsSpec : ChangeSpec := { name := "johnShifts", fn := fun _ => fun
  | [d1, d2, d3] => { results := [.lit (.bool true)], args := [d1, d2, d3] }
  | _ => none }
def johnShiftsRow : OpenClaim := { program := "ytidbbkpgmcheiaa", sum := "9b74d3b04fcc4d9d3d501c96f6e91b66209a5de1517b50b93b324c0825058252", func := "fellwalker/fellkeep.JohnShifts", spec := "johnShifts", apart := false }
def JohnShiftsSaid : Prop := johnShiftsRow.holds Try.pinned (OpenSpec.ofChange johnShiftsSpec)

/-- ITS FALSE NEIGHBOUR: 'it returns false'. Refute it at one input. -/
def johnShiftsWrong : ChangeSpec := { name := "johnShifts", fn := fun _ => fun
  | [d1, d2, d3] => { results := [.lit (.bool false)], args := [d1, d2, d3] }
  | _ => none }
def JohnShiftsWrongFalsely : Prop := johnShiftsRow.holds Try.pinned (OpenSpec.ofChange johnShiftsWrong)

/-- 'fellkeep.NetOwn': WHATEVER THE INPUT: true; the input reads as it did. -/
def netOwnSpec : ChangeSpec := { name := "netOwn", fn := fun _ => fun
  | [d1, d2] => { results := [.lit (.bool true)], args := [d1, d2] }
  | _ => none }
def netOwnRow : OpenClaim := { program := "ytidbbkpgmcheiaa", sum := "9b74d3b04fcc4d9d3d501c96f6e91b66209a5de1517b50b93b324c0825058252", func := "fellwalker/fellkeep.NetOwn", spec := "netOwn", apart := false }
def NetOwnSaid : Prop := netOwnRow.holds Try.pinned (OpenSpec.ofChange netOwnSpec)

/-- ITS FALSE NEIGHBOUR: 'it returns false'. Refute it at one input. -/
def netOwnWrong : ChangeSpec := { name := "netOwn", fn := fun _ => fun
  | [d1, d2] => { results := [.lit (.bool false)], args := [d1, d2] }
  | _ => none }
def NetOwnWrongFalsely : Prop := netOwnRow.holds Try.pinned (OpenSpec.ofChange netOwnWrong)

/- THE SECOND FORM. 'bulk': how many values and letters a reading holds, each counted each time it is reached (what is shared counts as often as it is met; a slice's spare places count too). A statement '..UptoSaid' is the law's where the arguments, and the package variables that the reading takes, are together of bulk at most 1048576: NARROWER than '..Said'. Prove '..Said' where nothing that the law and all that it calls make is longer than what came in: it says more and counts as full. Else prove '..UptoSaid'. A law counts once. -/
mutual
def uptoBulk {H : Type} : DataW H → Nat
  | .lit (.string bytes) => bytes.length + 1
  | .lit _ => 1
  | .nil => 1
  | .ptr d => uptoBulk d + 1
  | .slice elems spare => uptoBulkAll elems + uptoBulkAll spare + 1
  | .agg parts => uptoBulkAll parts + 1
  | .iface _ d => uptoBulk d + 1
  | .map entries => uptoBulkEntries entries + 1
  | .held _ => 1
def uptoBulkAll {H : Type} : List (DataW H) → Nat
  | [] => 0
  | d :: r => uptoBulk d + uptoBulkAll r
def uptoBulkEntries {H : Type} : List (Lit × DataW H) → Nat
  | [] => 0
  | x :: r => uptoBulkEntry x + uptoBulkEntries r
def uptoBulkEntry {H : Type} : Lit × DataW H → Nat
  | (.string bytes, d) => bytes.length + uptoBulk d + 1
  | (_, d) => uptoBulk d + 1
 end
def uptoSmall : (H : Type) → List (DataW H) → Bool := fun _ ds => decide (uptoBulkAll ds ≤ 1048576)
def OpenSpec.upto (s : _root_.Go.ChangeSpec) : _root_.Go.OpenSpec := { _root_.Go.OpenSpec.ofChange s with cond := some uptoSmall }

/-- 'felllaw.BellDists', WHERE WHAT IT READS IS OF BULK AT MOST 1048576: true; the input reads as it did. -/
def bellDistsUptoRow : OpenClaim := { program := "ytidbbkpgmcheiaa", sum := "9b74d3b04fcc4d9d3d501c96f6e91b66209a5de1517b50b93b324c0825058252", func := "fellwalker/felllaw.BellDists", spec := "bellDists", apart := false, narrowed := true }
def BellDistsUptoSaid : Prop := bellDistsUptoRow.holds Try.pinned (OpenSpec.upto bellDistsSpec)

/-- 'felllaw.BellCycles', WHERE WHAT IT READS IS OF BULK AT MOST 1048576: true; the input reads as it did. -/
def bellCyclesUptoRow : OpenClaim := { program := "ytidbbkpgmcheiaa", sum := "9b74d3b04fcc4d9d3d501c96f6e91b66209a5de1517b50b93b324c0825058252", func := "fellwalker/felllaw.BellCycles", spec := "bellCycles", apart := false, narrowed := true }
def BellCyclesUptoSaid : Prop := bellCyclesUptoRow.holds Try.pinned (OpenSpec.upto bellCyclesSpec)

/-- 'felllaw.JohnLifts', WHERE WHAT IT READS IS OF BULK AT MOST 1048576: true; the input reads as it did. -/
def johnLiftsUptoRow : OpenClaim := { program := "ytidbbkpgmcheiaa", sum := "9b74d3b04fcc4d9d3d501c96f6e91b66209a5de1517b50b93b324c0825058252", func := "fellwalker/felllaw.JohnLifts", spec := "johnLifts", apart := false, narrowed := true }
def JohnLiftsUptoSaid : Prop := johnLiftsUptoRow.holds Try.pinned (OpenSpec.upto johnLiftsSpec)

/-- 'felllaw.JohnFlats', WHERE WHAT IT READS IS OF BULK AT MOST 1048576: true; the input reads as it did. -/
def johnFlatsUptoRow : OpenClaim := { program := "ytidbbkpgmcheiaa", sum := "9b74d3b04fcc4d9d3d501c96f6e91b66209a5de1517b50b93b324c0825058252", func := "fellwalker/felllaw.JohnFlats", spec := "johnFlats", apart := false, narrowed := true }
def JohnFlatsUptoSaid : Prop := johnFlatsUptoRow.holds Try.pinned (OpenSpec.upto johnFlatsSpec)

/-- 'felllaw.JohnAlls', WHERE WHAT IT READS IS OF BULK AT MOST 1048576: true; the input reads as it did. -/
def johnAllsUptoRow : OpenClaim := { program := "ytidbbkpgmcheiaa", sum := "9b74d3b04fcc4d9d3d501c96f6e91b66209a5de1517b50b93b324c0825058252", func := "fellwalker/felllaw.JohnAlls", spec := "johnAlls", unfollowed := true, recurses := true, apart := false, narrowed := true }
def JohnAllsUptoSaid : Prop := johnAllsUptoRow.holds Try.pinned (OpenSpec.upto johnAllsSpec)

/-- 'fellkeep.BellSame', WHERE WHAT IT READS IS OF BULK AT MOST 1048576: true; the input reads as it did. -/
def bellSameUptoRow : OpenClaim := { program := "ytidbbkpgmcheiaa", sum := "9b74d3b04fcc4d9d3d501c96f6e91b66209a5de1517b50b93b324c0825058252", func := "fellwalker/fellkeep.BellSame", spec := "bellSame", unfollowed := true, recurses := true, apart := false, narrowed := true }
def BellSameUptoSaid : Prop := bellSameUptoRow.holds Try.pinned (OpenSpec.upto bellSameSpec)

/-- 'fellkeep.BellTight', WHERE WHAT IT READS IS OF BULK AT MOST 1048576: true; the input reads as it did. -/
def bellTightUptoRow : OpenClaim := { program := "ytidbbkpgmcheiaa", sum := "9b74d3b04fcc4d9d3d501c96f6e91b66209a5de1517b50b93b324c0825058252", func := "fellwalker/fellkeep.BellTight", spec := "bellTight", unfollowed := true, recurses := true, apart := false, narrowed := true }
def BellTightUptoSaid : Prop := bellTightUptoRow.holds Try.pinned (OpenSpec.upto bellTightSpec)

/-- 'fellkeep.BellEither', WHERE WHAT IT READS IS OF BULK AT MOST 1048576: true; the input reads as it did. -/
def bellEitherUptoRow : OpenClaim := { program := "ytidbbkpgmcheiaa", sum := "9b74d3b04fcc4d9d3d501c96f6e91b66209a5de1517b50b93b324c0825058252", func := "fellwalker/fellkeep.BellEither", spec := "bellEither", unfollowed := true, recurses := true, apart := false, narrowed := true }
def BellEitherUptoSaid : Prop := bellEitherUptoRow.holds Try.pinned (OpenSpec.upto bellEitherSpec)

/-- 'fellkeep.JohnShifts', WHERE WHAT IT READS IS OF BULK AT MOST 1048576: true; the input reads as it did. -/
def johnShiftsUptoRow : OpenClaim := { program := "ytidbbkpgmcheiaa", sum := "9b74d3b04fcc4d9d3d501c96f6e91b66209a5de1517b50b93b324c0825058252", func := "fellwalker/fellkeep.JohnShifts", spec := "johnShifts", apart := false, narrowed := true }
def JohnShiftsUptoSaid : Prop := johnShiftsUptoRow.holds Try.pinned (OpenSpec.upto johnShiftsSpec)

/-- 'fellkeep.NetOwn', WHERE WHAT IT READS IS OF BULK AT MOST 1048576: true; the input reads as it did. -/
def netOwnUptoRow : OpenClaim := { program := "ytidbbkpgmcheiaa", sum := "9b74d3b04fcc4d9d3d501c96f6e91b66209a5de1517b50b93b324c0825058252", func := "fellwalker/fellkeep.NetOwn", spec := "netOwn", apart := false, narrowed := true }
def NetOwnUptoSaid : Prop := netOwnUptoRow.holds Try.pinned (OpenSpec.upto netOwnSpec)

end Rows
end Go.Proofs.Ytidbbkpgmcheiaa
