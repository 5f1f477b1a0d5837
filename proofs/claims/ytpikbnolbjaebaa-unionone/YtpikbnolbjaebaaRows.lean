/-
  No cell of these rows narrows 'for every input' (looked for: loops, veiled, ifaces, maps, wideKeys, modest, calm, conditions, laid).
  DERIVED. THE GIVEN ROWS OF THIS SEAT. 3 by the template 'for every input the law returns true; each argument reads behind the call as it read before'; 0 by the template 'total and deterministic' (their statements: YtpikbnolbjaebaaTotals.lean).
  GIVEN WITH THE SEED: the statements are not yours to turn. If you find one false, say at which input.
  Laid BY PROGRAM, IN A SANDBOX (cutbox-rows.mjs): the forced cells as the released guide's own fill.sh prints them over the translation 303b6ec8e87b25a3… (all of the seat's roots in one cut). By AI agents, Wed Nov 11 2026. No macro, syntax, notation, axiom, sorry.
-/
import Derived.Test.YtpikbnolbjaebaaChecked
import GoSem.Claim
import GoSem.ClaimJoined
import GoSem.ClaimMapViews
import Derived.JoinedTies
import Derived.KernelRfl
namespace Go.Proofs.Ytpikbnolbjaebaa
/- THE CELL 'sum', in the pinned program and in every row, IS THE sha256 OF THE DUMP (.gsa) THAT YtpikbnolbjaebaaProg.lean LOADS. Nothing in Lean hashes anything: it is a label: what it is worth is what the hold of that sum in a sandbox is worth. -/
noncomputable def Try.pinned : Pinned := { name := "ytpikbnolbjaebaa", sum := "303b6ec8e87b25a37372d1743405d7fa555f1446d8042a7c9f6ca0f87ba27ee7", checked := Try.checked }
namespace Rows
def none {H : Type} : Left H := { results := [], args := [] }

/-- 'felllaw.UnionSays': WHATEVER THE INPUT: true; the input reads as it did. -/
def unionSaysSpec : ChangeSpec := { name := "unionSays", fn := fun _ => fun
  | [d1, d2] => { results := [.lit (.bool true)], args := [d1, d2] }
  | _ => none }
def unionSaysRow : OpenClaim := { program := "ytpikbnolbjaebaa", sum := "303b6ec8e87b25a37372d1743405d7fa555f1446d8042a7c9f6ca0f87ba27ee7", func := "fellwalker/felllaw.UnionSays", spec := "unionSays", apart := false }
def UnionSaysSaid : Prop := unionSaysRow.holds Try.pinned (OpenSpec.ofChange unionSaysSpec)

/-- ITS FALSE NEIGHBOUR: 'it returns false'. Refute it at one input. -/
def unionSaysWrong : ChangeSpec := { name := "unionSays", fn := fun _ => fun
  | [d1, d2] => { results := [.lit (.bool false)], args := [d1, d2] }
  | _ => none }
def UnionSaysWrongFalsely : Prop := unionSaysRow.holds Try.pinned (OpenSpec.ofChange unionSaysWrong)

/-- 'fellkeep.UnionOne': WHATEVER THE INPUT: true; the input reads as it did. -/
def unionOneSpec : ChangeSpec := { name := "unionOne", fn := fun _ => fun
  | [d1, d2, d3] => { results := [.lit (.bool true)], args := [d1, d2, d3] }
  | _ => none }
def unionOneRow : OpenClaim := { program := "ytpikbnolbjaebaa", sum := "303b6ec8e87b25a37372d1743405d7fa555f1446d8042a7c9f6ca0f87ba27ee7", func := "fellwalker/fellkeep.UnionOne", spec := "unionOne", apart := false }
def UnionOneSaid : Prop := unionOneRow.holds Try.pinned (OpenSpec.ofChange unionOneSpec)

/-- ITS FALSE NEIGHBOUR: 'it returns false'. Refute it at one input. -/
def unionOneWrong : ChangeSpec := { name := "unionOne", fn := fun _ => fun
  | [d1, d2, d3] => { results := [.lit (.bool false)], args := [d1, d2, d3] }
  | _ => none }
def UnionOneWrongFalsely : Prop := unionOneRow.holds Try.pinned (OpenSpec.ofChange unionOneWrong)

/-- 'fellkeep.UnionLeast': WHATEVER THE INPUT: true; the input reads as it did. -/
def unionLeastSpec : ChangeSpec := { name := "unionLeast", fn := fun _ => fun
  | [d1, d2] => { results := [.lit (.bool true)], args := [d1, d2] }
  | _ => none }
def unionLeastRow : OpenClaim := { program := "ytpikbnolbjaebaa", sum := "303b6ec8e87b25a37372d1743405d7fa555f1446d8042a7c9f6ca0f87ba27ee7", func := "fellwalker/fellkeep.UnionLeast", spec := "unionLeast", apart := false }
def UnionLeastSaid : Prop := unionLeastRow.holds Try.pinned (OpenSpec.ofChange unionLeastSpec)

/-- ITS FALSE NEIGHBOUR: 'it returns false'. Refute it at one input. -/
def unionLeastWrong : ChangeSpec := { name := "unionLeast", fn := fun _ => fun
  | [d1, d2] => { results := [.lit (.bool false)], args := [d1, d2] }
  | _ => none }
def UnionLeastWrongFalsely : Prop := unionLeastRow.holds Try.pinned (OpenSpec.ofChange unionLeastWrong)

/- THE SECOND FORM. 'bulk': how many values and letters a reading holds, each counted each time it is reached (what is shared counts as often as it is met; a slice's spare places count too). A statement '..UptoSaid' is the law's where the arguments, and the package variables that the reading takes, are together of bulk at most 1048576: NARROWER than '..Said'. Prove '..Said' where nothing that the law and all that it calls make is longer than what came in: it says more and counts as full. Else prove '..UptoSaid'. A law counts once. -/
mutual
def uptoBulk {H : Type} : DataW H → Nat
  | .lit (.string bytes) => bytes.length + 1
  | .lit _ => 1
  | .nil => 1
  | .ptr d => uptoBulk d + 1
  | .slice elems spare => uptoBulkAll elems + uptoBulkAll spare + 1
  | .agg parts => uptoBulkAll parts + 1
  | .iface _ d => uptoBulk d + 1
  | .map entries => uptoBulkEntries entries + 1
  | .held _ => 1
def uptoBulkAll {H : Type} : List (DataW H) → Nat
  | [] => 0
  | d :: r => uptoBulk d + uptoBulkAll r
def uptoBulkEntries {H : Type} : List (Lit × DataW H) → Nat
  | [] => 0
  | x :: r => uptoBulkEntry x + uptoBulkEntries r
def uptoBulkEntry {H : Type} : Lit × DataW H → Nat
  | (.string bytes, d) => bytes.length + uptoBulk d + 1
  | (_, d) => uptoBulk d + 1
 end
def uptoSmall : (H : Type) → List (DataW H) → Bool := fun _ ds => decide (uptoBulkAll ds ≤ 1048576)
def OpenSpec.upto (s : _root_.Go.ChangeSpec) : _root_.Go.OpenSpec := { _root_.Go.OpenSpec.ofChange s with cond := some uptoSmall }

/-- 'felllaw.UnionSays', WHERE WHAT IT READS IS OF BULK AT MOST 1048576: true; the input reads as it did. -/
def unionSaysUptoRow : OpenClaim := { program := "ytpikbnolbjaebaa", sum := "303b6ec8e87b25a37372d1743405d7fa555f1446d8042a7c9f6ca0f87ba27ee7", func := "fellwalker/felllaw.UnionSays", spec := "unionSays", apart := false, narrowed := true }
def UnionSaysUptoSaid : Prop := unionSaysUptoRow.holds Try.pinned (OpenSpec.upto unionSaysSpec)

/-- 'fellkeep.UnionOne', WHERE WHAT IT READS IS OF BULK AT MOST 1048576: true; the input reads as it did. -/
def unionOneUptoRow : OpenClaim := { program := "ytpikbnolbjaebaa", sum := "303b6ec8e87b25a37372d1743405d7fa555f1446d8042a7c9f6ca0f87ba27ee7", func := "fellwalker/fellkeep.UnionOne", spec := "unionOne", apart := false, narrowed := true }
def UnionOneUptoSaid : Prop := unionOneUptoRow.holds Try.pinned (OpenSpec.upto unionOneSpec)

/-- 'fellkeep.UnionLeast', WHERE WHAT IT READS IS OF BULK AT MOST 1048576: true; the input reads as it did. -/
def unionLeastUptoRow : OpenClaim := { program := "ytpikbnolbjaebaa", sum := "303b6ec8e87b25a37372d1743405d7fa555f1446d8042a7c9f6ca0f87ba27ee7", func := "fellwalker/fellkeep.UnionLeast", spec := "unionLeast", apart := false, narrowed := true }
def UnionLeastUptoSaid : Prop := unionLeastUptoRow.holds Try.pinned (OpenSpec.upto unionLeastSpec)

end Rows
end Go.Proofs.Ytpikbnolbjaebaa
