/-
  No cell of these rows narrows 'for every input' (looked for: loops, veiled, ifaces, maps, wideKeys, modest, calm, conditions, laid).
  DERIVED. THE GIVEN ROWS OF THIS SEAT. 7 by the template 'for every input the law returns true; each argument reads behind the call as it read before'; 0 by the template 'total and deterministic' (their statements: YtlmichnnpameeaaTotals.lean).
  GIVEN WITH THE SEED: the statements are not yours to turn. If you find one false, say at which input.
  Laid BY PROGRAM, IN A SANDBOX (cutbox-rows.mjs): the forced cells as the released guide's own fill.sh prints them over the translation 6d23f068f803b664… (all of the seat's roots in one cut). By AI agents, Wed Nov 11 2026. No macro, syntax, notation, axiom, sorry.
-/
import Derived.Test.YtlmichnnpameeaaChecked
import GoSem.Claim
import GoSem.ClaimJoined
import GoSem.ClaimMapViews
import Derived.JoinedTies
import Derived.KernelRfl
namespace Go.Proofs.Ytlmichnnpameeaa
/- THE CELL 'sum', in the pinned program and in every row, IS THE sha256 OF THE DUMP (.gsa) THAT YtlmichnnpameeaaProg.lean LOADS. Nothing in Lean hashes anything: it is a label: what it is worth is what the hold of that sum in a sandbox is worth. -/
noncomputable def Try.pinned : Pinned := { name := "ytlmichnnpameeaa", sum := "6d23f068f803b6643162ae923c88ab65f8c1e623bd2cbf1797062af5638c6a2d", checked := Try.checked }
namespace Rows
def none {H : Type} : Left H := { results := [], args := [] }

/-- 'felllaw.FloydAlls': WHATEVER THE INPUT: true; the input reads as it did. -/
def floydAllsSpec : ChangeSpec := { name := "floydAlls", fn := fun _ => fun
  | [d] => { results := [.lit (.bool true)], args := [d] }
  | _ => none }
def floydAllsRow : OpenClaim := { program := "ytlmichnnpameeaa", sum := "6d23f068f803b6643162ae923c88ab65f8c1e623bd2cbf1797062af5638c6a2d", func := "fellwalker/felllaw.FloydAlls", spec := "floydAlls", unfollowed := true, recurses := true, apart := false }
def FloydAllsSaid : Prop := floydAllsRow.holds Try.pinned (OpenSpec.ofChange floydAllsSpec)

/-- ITS FALSE NEIGHBOUR: 'it returns false'. Refute it at one input. -/
def floydAllsWrong : ChangeSpec := { name := "floydAlls", fn := fun _ => fun
  | [d] => { results := [.lit (.bool false)], args := [d] }
  | _ => none }
def FloydAllsWrongFalsely : Prop := floydAllsRow.holds Try.pinned (OpenSpec.ofChange floydAllsWrong)

/-- 'felllaw.FloydWides': WHATEVER THE INPUT: true; the input reads as it did. -/
def floydWidesSpec : ChangeSpec := { name := "floydWides", fn := fun _ => fun
  | [d] => { results := [.lit (.bool true)], args := [d] }
  | _ => none }
def floydWidesRow : OpenClaim := { program := "ytlmichnnpameeaa", sum := "6d23f068f803b6643162ae923c88ab65f8c1e623bd2cbf1797062af5638c6a2d", func := "fellwalker/felllaw.FloydWides", spec := "floydWides", unfollowed := true, recurses := true, apart := false }
def FloydWidesSaid : Prop := floydWidesRow.holds Try.pinned (OpenSpec.ofChange floydWidesSpec)

/-- ITS FALSE NEIGHBOUR: 'it returns false'. Refute it at one input. -/
def floydWidesWrong : ChangeSpec := { name := "floydWides", fn := fun _ => fun
  | [d] => { results := [.lit (.bool false)], args := [d] }
  | _ => none }
def FloydWidesWrongFalsely : Prop := floydWidesRow.holds Try.pinned (OpenSpec.ofChange floydWidesWrong)

/-- 'felllaw.FloydReaches': WHATEVER THE INPUT: true; the input reads as it did. -/
def floydReachesSpec : ChangeSpec := { name := "floydReaches", fn := fun _ => fun
  | [d] => { results := [.lit (.bool true)], args := [d] }
  | _ => none }
def floydReachesRow : OpenClaim := { program := "ytlmichnnpameeaa", sum := "6d23f068f803b6643162ae923c88ab65f8c1e623bd2cbf1797062af5638c6a2d", func := "fellwalker/felllaw.FloydReaches", spec := "floydReaches", unfollowed := true, recurses := true, apart := false }
def FloydReachesSaid : Prop := floydReachesRow.holds Try.pinned (OpenSpec.ofChange floydReachesSpec)

/-- ITS FALSE NEIGHBOUR: 'it returns false'. Refute it at one input. -/
def floydReachesWrong : ChangeSpec := { name := "floydReaches", fn := fun _ => fun
  | [d] => { results := [.lit (.bool false)], args := [d] }
  | _ => none }
def FloydReachesWrongFalsely : Prop := floydReachesRow.holds Try.pinned (OpenSpec.ofChange floydReachesWrong)

/-- 'fellkeep.JohnSame': WHATEVER THE INPUT: true; the input reads as it did. -/
def johnSameSpec : ChangeSpec := { name := "johnSame", fn := fun _ => fun
  | [d1, d2] => { results := [.lit (.bool true)], args := [d1, d2] }
  | _ => none }
def johnSameRow : OpenClaim := { program := "ytlmichnnpameeaa", sum := "6d23f068f803b6643162ae923c88ab65f8c1e623bd2cbf1797062af5638c6a2d", func := "fellwalker/fellkeep.JohnSame", spec := "johnSame", unfollowed := true, recurses := true, apart := false }
def JohnSameSaid : Prop := johnSameRow.holds Try.pinned (OpenSpec.ofChange johnSameSpec)

/-- ITS FALSE NEIGHBOUR: 'it returns false'. Refute it at one input. -/
def johnSameWrong : ChangeSpec := { name := "johnSame", fn := fun _ => fun
  | [d1, d2] => { results := [.lit (.bool false)], args := [d1, d2] }
  | _ => none }
def JohnSameWrongFalsely : Prop := johnSameRow.holds Try.pinned (OpenSpec.ofChange johnSameWrong)

/-- 'fellkeep.FloydBetween': WHATEVER THE INPUT: true; the input reads as it did. -/
def floydBetweenSpec : ChangeSpec := { name := "floydBetween", fn := fun _ => fun
  | [d1, d2, d3, d4] => { results := [.lit (.bool true)], args := [d1, d2, d3, d4] }
  | _ => none }
def floydBetweenRow : OpenClaim := { program := "ytlmichnnpameeaa", sum := "6d23f068f803b6643162ae923c88ab65f8c1e623bd2cbf1797062af5638c6a2d", func := "fellwalker/fellkeep.FloydBetween", spec := "floydBetween", unfollowed := true, recurses := true, apart := false }
def FloydBetweenSaid : Prop := floydBetweenRow.holds Try.pinned (OpenSpec.ofChange floydBetweenSpec)

/-- ITS FALSE NEIGHBOUR: 'it returns false'. Refute it at one input. -/
def floydBetweenWrong : ChangeSpec := { name := "floydBetween", fn := fun _ => fun
  | [d1, d2, d3, d4] => { results := [.lit (.bool false)], args := [d1, d2, d3, d4] }
  | _ => none }
def FloydBetweenWrongFalsely : Prop := floydBetweenRow.holds Try.pinned (OpenSpec.ofChange floydBetweenWrong)

/-- 'fellkeep.FloydWidth': WHATEVER THE INPUT: true; the input reads as it did. -/
def floydWidthSpec : ChangeSpec := { name := "floydWidth", fn := fun _ => fun
  | [d1, d2, d3, d4] => { results := [.lit (.bool true)], args := [d1, d2, d3, d4] }
  | _ => none }
def floydWidthRow : OpenClaim := { program := "ytlmichnnpameeaa", sum := "6d23f068f803b6643162ae923c88ab65f8c1e623bd2cbf1797062af5638c6a2d", func := "fellwalker/fellkeep.FloydWidth", spec := "floydWidth", unfollowed := true, recurses := true, apart := false }
def FloydWidthSaid : Prop := floydWidthRow.holds Try.pinned (OpenSpec.ofChange floydWidthSpec)

/-- ITS FALSE NEIGHBOUR: 'it returns false'. Refute it at one input. -/
def floydWidthWrong : ChangeSpec := { name := "floydWidth", fn := fun _ => fun
  | [d1, d2, d3, d4] => { results := [.lit (.bool false)], args := [d1, d2, d3, d4] }
  | _ => none }
def FloydWidthWrongFalsely : Prop := floydWidthRow.holds Try.pinned (OpenSpec.ofChange floydWidthWrong)

/-- 'fellkeep.FloydTurns': WHATEVER THE INPUT: true; the input reads as it did. -/
def floydTurnsSpec : ChangeSpec := { name := "floydTurns", fn := fun _ => fun
  | [d1, d2, d3] => { results := [.lit (.bool true)], args := [d1, d2, d3] }
  | _ => none }
def floydTurnsRow : OpenClaim := { program := "ytlmichnnpameeaa", sum := "6d23f068f803b6643162ae923c88ab65f8c1e623bd2cbf1797062af5638c6a2d", func := "fellwalker/fellkeep.FloydTurns", spec := "floydTurns", unfollowed := true, recurses := true, apart := false }
def FloydTurnsSaid : Prop := floydTurnsRow.holds Try.pinned (OpenSpec.ofChange floydTurnsSpec)

/-- ITS FALSE NEIGHBOUR: 'it returns false'. Refute it at one input. -/
def floydTurnsWrong : ChangeSpec := { name := "floydTurns", fn := fun _ => fun
  | [d1, d2, d3] => { results := [.lit (.bool false)], args := [d1, d2, d3] }
  | _ => none }
def FloydTurnsWrongFalsely : Prop := floydTurnsRow.holds Try.pinned (OpenSpec.ofChange floydTurnsWrong)

/- THE SECOND FORM. 'bulk': how many values and letters a reading holds, each counted each time it is reached (what is shared counts as often as it is met; a slice's spare places count too). A statement '..UptoSaid' is the law's where the arguments, and the package variables that the reading takes, are together of bulk at most 1048576: NARROWER than '..Said'. Prove '..Said' where nothing that the law and all that it calls make is longer than what came in: it says more and counts as full. Else prove '..UptoSaid'. A law counts once. -/
mutual
def uptoBulk {H : Type} : DataW H → Nat
  | .lit (.string bytes) => bytes.length + 1
  | .lit _ => 1
  | .nil => 1
  | .ptr d => uptoBulk d + 1
  | .slice elems spare => uptoBulkAll elems + uptoBulkAll spare + 1
  | .agg parts => uptoBulkAll parts + 1
  | .iface _ d => uptoBulk d + 1
  | .map entries => uptoBulkEntries entries + 1
  | .held _ => 1
def uptoBulkAll {H : Type} : List (DataW H) → Nat
  | [] => 0
  | d :: r => uptoBulk d + uptoBulkAll r
def uptoBulkEntries {H : Type} : List (Lit × DataW H) → Nat
  | [] => 0
  | x :: r => uptoBulkEntry x + uptoBulkEntries r
def uptoBulkEntry {H : Type} : Lit × DataW H → Nat
  | (.string bytes, d) => bytes.length + uptoBulk d + 1
  | (_, d) => uptoBulk d + 1
 end
def uptoSmall : (H : Type) → List (DataW H) → Bool := fun _ ds => decide (uptoBulkAll ds ≤ 1048576)
def OpenSpec.upto (s : _root_.Go.ChangeSpec) : _root_.Go.OpenSpec := { _root_.Go.OpenSpec.ofChange s with cond := some uptoSmall }

/-- 'felllaw.FloydAlls', WHERE WHAT IT READS IS OF BULK AT MOST 1048576: true; the input reads as it did. -/
def floydAllsUptoRow : OpenClaim := { program := "ytlmichnnpameeaa", sum := "6d23f068f803b6643162ae923c88ab65f8c1e623bd2cbf1797062af5638c6a2d", func := "fellwalker/felllaw.FloydAlls", spec := "floydAlls", unfollowed := true, recurses := true, apart := false, narrowed := true }
def FloydAllsUptoSaid : Prop := floydAllsUptoRow.holds Try.pinned (OpenSpec.upto floydAllsSpec)

/-- 'felllaw.FloydWides', WHERE WHAT IT READS IS OF BULK AT MOST 1048576: true; the input reads as it did. -/
def floydWidesUptoRow : OpenClaim := { program := "ytlmichnnpameeaa", sum := "6d23f068f803b6643162ae923c88ab65f8c1e623bd2cbf1797062af5638c6a2d", func := "fellwalker/felllaw.FloydWides", spec := "floydWides", unfollowed := true, recurses := true, apart := false, narrowed := true }
def FloydWidesUptoSaid : Prop := floydWidesUptoRow.holds Try.pinned (OpenSpec.upto floydWidesSpec)

/-- 'felllaw.FloydReaches', WHERE WHAT IT READS IS OF BULK AT MOST 1048576: true; the input reads as it did. -/
def floydReachesUptoRow : OpenClaim := { program := "ytlmichnnpameeaa", sum := "6d23f068f803b6643162ae923c88ab65f8c1e623bd2cbf1797062af5638c6a2d", func := "fellwalker/felllaw.FloydReaches", spec := "floydReaches", unfollowed := true, recurses := true, apart := false, narrowed := true }
def FloydReachesUptoSaid : Prop := floydReachesUptoRow.holds Try.pinned (OpenSpec.upto floydReachesSpec)

/-- 'fellkeep.JohnSame', WHERE WHAT IT READS IS OF BULK AT MOST 1048576: true; the input reads as it did. -/
def johnSameUptoRow : OpenClaim := { program := "ytlmichnnpameeaa", sum := "6d23f068f803b6643162ae923c88ab65f8c1e623bd2cbf1797062af5638c6a2d", func := "fellwalker/fellkeep.JohnSame", spec := "johnSame", unfollowed := true, recurses := true, apart := false, narrowed := true }
def JohnSameUptoSaid : Prop := johnSameUptoRow.holds Try.pinned (OpenSpec.upto johnSameSpec)

/-- 'fellkeep.FloydBetween', WHERE WHAT IT READS IS OF BULK AT MOST 1048576: true; the input reads as it did. -/
def floydBetweenUptoRow : OpenClaim := { program := "ytlmichnnpameeaa", sum := "6d23f068f803b6643162ae923c88ab65f8c1e623bd2cbf1797062af5638c6a2d", func := "fellwalker/fellkeep.FloydBetween", spec := "floydBetween", unfollowed := true, recurses := true, apart := false, narrowed := true }
def FloydBetweenUptoSaid : Prop := floydBetweenUptoRow.holds Try.pinned (OpenSpec.upto floydBetweenSpec)

/-- 'fellkeep.FloydWidth', WHERE WHAT IT READS IS OF BULK AT MOST 1048576: true; the input reads as it did. -/
def floydWidthUptoRow : OpenClaim := { program := "ytlmichnnpameeaa", sum := "6d23f068f803b6643162ae923c88ab65f8c1e623bd2cbf1797062af5638c6a2d", func := "fellwalker/fellkeep.FloydWidth", spec := "floydWidth", unfollowed := true, recurses := true, apart := false, narrowed := true }
def FloydWidthUptoSaid : Prop := floydWidthUptoRow.holds Try.pinned (OpenSpec.upto floydWidthSpec)

/-- 'fellkeep.FloydTurns', WHERE WHAT IT READS IS OF BULK AT MOST 1048576: true; the input reads as it did. -/
def floydTurnsUptoRow : OpenClaim := { program := "ytlmichnnpameeaa", sum := "6d23f068f803b6643162ae923c88ab65f8c1e623bd2cbf1797062af5638c6a2d", func := "fellwalker/fellkeep.FloydTurns", spec := "floydTurns", unfollowed := true, recurses := true, apart := false, narrowed := true }
def FloydTurnsUptoSaid : Prop := floydTurnsUptoRow.holds Try.pinned (OpenSpec.upto floydTurnsSpec)

end Rows
end Go.Proofs.Ytlmichnnpameeaa
