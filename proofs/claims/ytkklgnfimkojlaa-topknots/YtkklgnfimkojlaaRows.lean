/-
  No cell of these rows narrows 'for every input' (looked for: loops, veiled, ifaces, maps, wideKeys, modest, calm, conditions, laid).
  DERIVED. THE GIVEN ROWS OF THIS SEAT. 8 by the template 'for every input the law returns true; each argument reads behind the call as it read before'; 0 by the template 'total and deterministic' (their statements: YtkklgnfimkojlaaTotals.lean).
  GIVEN WITH THE SEED: the statements are not yours to turn. If you find one false, say at which input.
  Laid BY PROGRAM, IN A SANDBOX (cutbox-rows.mjs): the forced cells as the released guide's own fill.sh prints them over the translation 4ad644befbdf8c04… (all of the seat's roots in one cut). By AI agents, Wed Nov 11 2026. No macro, syntax, notation, axiom, sorry.
-/
import Derived.Test.YtkklgnfimkojlaaChecked
import GoSem.Claim
import GoSem.ClaimJoined
import GoSem.ClaimMapViews
import Derived.JoinedTies
import Derived.KernelRfl
namespace Go.Proofs.Ytkklgnfimkojlaa
/- THE CELL 'sum', in the pinned program and in every row, IS THE sha256 OF THE DUMP (.gsa) THAT YtkklgnfimkojlaaProg.lean LOADS. Nothing in Lean hashes anything: it is a label: what it is worth is what the hold of that sum in a sandbox is worth. -/
noncomputable def Try.pinned : Pinned := { name := "ytkklgnfimkojlaa", sum := "4ad644befbdf8c048588628bb8bbc140ef024fb74995c1c0244bad65b4096599", checked := Try.checked }
namespace Rows
def none {H : Type} : Left H := { results := [], args := [] }

/-- 'felllaw.CompSays': WHATEVER THE INPUT: true; the input reads as it did. -/
def compSaysSpec : ChangeSpec := { name := "compSays", fn := fun _ => fun
  | [d] => { results := [.lit (.bool true)], args := [d] }
  | _ => none }
def compSaysRow : OpenClaim := { program := "ytkklgnfimkojlaa", sum := "4ad644befbdf8c048588628bb8bbc140ef024fb74995c1c0244bad65b4096599", func := "fellwalker/felllaw.CompSays", spec := "compSays", unfollowed := true, recurses := true, apart := false }
def CompSaysSaid : Prop := compSaysRow.holds Try.pinned (OpenSpec.ofChange compSaysSpec)

/-- ITS FALSE NEIGHBOUR: 'it returns false'. Refute it at one input. -/
def compSaysWrong : ChangeSpec := { name := "compSays", fn := fun _ => fun
  | [d] => { results := [.lit (.bool false)], args := [d] }
  | _ => none }
def CompSaysWrongFalsely : Prop := compSaysRow.holds Try.pinned (OpenSpec.ofChange compSaysWrong)

/-- 'felllaw.DagSays': WHATEVER THE INPUT: true; the input reads as it did. -/
def dagSaysSpec : ChangeSpec := { name := "dagSays", fn := fun _ => fun
  | [d] => { results := [.lit (.bool true)], args := [d] }
  | _ => none }
def dagSaysRow : OpenClaim := { program := "ytkklgnfimkojlaa", sum := "4ad644befbdf8c048588628bb8bbc140ef024fb74995c1c0244bad65b4096599", func := "fellwalker/felllaw.DagSays", spec := "dagSays", unfollowed := true, recurses := true, apart := false }
def DagSaysSaid : Prop := dagSaysRow.holds Try.pinned (OpenSpec.ofChange dagSaysSpec)

/-- ITS FALSE NEIGHBOUR: 'it returns false'. Refute it at one input. -/
def dagSaysWrong : ChangeSpec := { name := "dagSays", fn := fun _ => fun
  | [d] => { results := [.lit (.bool false)], args := [d] }
  | _ => none }
def DagSaysWrongFalsely : Prop := dagSaysRow.holds Try.pinned (OpenSpec.ofChange dagSaysWrong)

/-- 'fellkeep.CompLeads': WHATEVER THE INPUT: true; the input reads as it did. -/
def compLeadsSpec : ChangeSpec := { name := "compLeads", fn := fun _ => fun
  | [d1, d2, d3] => { results := [.lit (.bool true)], args := [d1, d2, d3] }
  | _ => none }
def compLeadsRow : OpenClaim := { program := "ytkklgnfimkojlaa", sum := "4ad644befbdf8c048588628bb8bbc140ef024fb74995c1c0244bad65b4096599", func := "fellwalker/fellkeep.CompLeads", spec := "compLeads", unfollowed := true, recurses := true, apart := false }
def CompLeadsSaid : Prop := compLeadsRow.holds Try.pinned (OpenSpec.ofChange compLeadsSpec)

/-- ITS FALSE NEIGHBOUR: 'it returns false'. Refute it at one input. -/
def compLeadsWrong : ChangeSpec := { name := "compLeads", fn := fun _ => fun
  | [d1, d2, d3] => { results := [.lit (.bool false)], args := [d1, d2, d3] }
  | _ => none }
def CompLeadsWrongFalsely : Prop := compLeadsRow.holds Try.pinned (OpenSpec.ofChange compLeadsWrong)

/-- 'fellkeep.CompOrder': WHATEVER THE INPUT: true; the input reads as it did. -/
def compOrderSpec : ChangeSpec := { name := "compOrder", fn := fun _ => fun
  | [d] => { results := [.lit (.bool true)], args := [d] }
  | _ => none }
def compOrderRow : OpenClaim := { program := "ytkklgnfimkojlaa", sum := "4ad644befbdf8c048588628bb8bbc140ef024fb74995c1c0244bad65b4096599", func := "fellwalker/fellkeep.CompOrder", spec := "compOrder", unfollowed := true, recurses := true, apart := false }
def CompOrderSaid : Prop := compOrderRow.holds Try.pinned (OpenSpec.ofChange compOrderSpec)

/-- ITS FALSE NEIGHBOUR: 'it returns false'. Refute it at one input. -/
def compOrderWrong : ChangeSpec := { name := "compOrder", fn := fun _ => fun
  | [d] => { results := [.lit (.bool false)], args := [d] }
  | _ => none }
def CompOrderWrongFalsely : Prop := compOrderRow.holds Try.pinned (OpenSpec.ofChange compOrderWrong)

/-- 'fellkeep.DagForward': WHATEVER THE INPUT: true; the input reads as it did. -/
def dagForwardSpec : ChangeSpec := { name := "dagForward", fn := fun _ => fun
  | [d] => { results := [.lit (.bool true)], args := [d] }
  | _ => none }
def dagForwardRow : OpenClaim := { program := "ytkklgnfimkojlaa", sum := "4ad644befbdf8c048588628bb8bbc140ef024fb74995c1c0244bad65b4096599", func := "fellwalker/fellkeep.DagForward", spec := "dagForward", unfollowed := true, recurses := true, apart := false }
def DagForwardSaid : Prop := dagForwardRow.holds Try.pinned (OpenSpec.ofChange dagForwardSpec)

/-- ITS FALSE NEIGHBOUR: 'it returns false'. Refute it at one input. -/
def dagForwardWrong : ChangeSpec := { name := "dagForward", fn := fun _ => fun
  | [d] => { results := [.lit (.bool false)], args := [d] }
  | _ => none }
def DagForwardWrongFalsely : Prop := dagForwardRow.holds Try.pinned (OpenSpec.ofChange dagForwardWrong)

/-- 'fellkeep.DagKnots': WHATEVER THE INPUT: true; the input reads as it did. -/
def dagKnotsSpec : ChangeSpec := { name := "dagKnots", fn := fun _ => fun
  | [d] => { results := [.lit (.bool true)], args := [d] }
  | _ => none }
def dagKnotsRow : OpenClaim := { program := "ytkklgnfimkojlaa", sum := "4ad644befbdf8c048588628bb8bbc140ef024fb74995c1c0244bad65b4096599", func := "fellwalker/fellkeep.DagKnots", spec := "dagKnots", unfollowed := true, recurses := true, apart := false }
def DagKnotsSaid : Prop := dagKnotsRow.holds Try.pinned (OpenSpec.ofChange dagKnotsSpec)

/-- ITS FALSE NEIGHBOUR: 'it returns false'. Refute it at one input. -/
def dagKnotsWrong : ChangeSpec := { name := "dagKnots", fn := fun _ => fun
  | [d] => { results := [.lit (.bool false)], args := [d] }
  | _ => none }
def DagKnotsWrongFalsely : Prop := dagKnotsRow.holds Try.pinned (OpenSpec.ofChange dagKnotsWrong)

/-- 'fellkeep.DagTight': WHATEVER THE INPUT: true; the input reads as it did. -/
def dagTightSpec : ChangeSpec := { name := "dagTight", fn := fun _ => fun
  | [d] => { results := [.lit (.bool true)], args := [d] }
  | _ => none }
def dagTightRow : OpenClaim := { program := "ytkklgnfimkojlaa", sum := "4ad644befbdf8c048588628bb8bbc140ef024fb74995c1c0244bad65b4096599", func := "fellwalker/fellkeep.DagTight", spec := "dagTight", unfollowed := true, recurses := true, apart := false }
def DagTightSaid : Prop := dagTightRow.holds Try.pinned (OpenSpec.ofChange dagTightSpec)

/-- ITS FALSE NEIGHBOUR: 'it returns false'. Refute it at one input. -/
def dagTightWrong : ChangeSpec := { name := "dagTight", fn := fun _ => fun
  | [d] => { results := [.lit (.bool false)], args := [d] }
  | _ => none }
def DagTightWrongFalsely : Prop := dagTightRow.holds Try.pinned (OpenSpec.ofChange dagTightWrong)

/-- 'felltop.TopKnots': WHATEVER THE INPUT: true; the input reads as it did. -/
def topKnotsSpec : ChangeSpec := { name := "topKnots", fn := fun _ => fun
  | [d] => { results := [.lit (.bool true)], args := [d] }
  | _ => none }
def topKnotsRow : OpenClaim := { program := "ytkklgnfimkojlaa", sum := "4ad644befbdf8c048588628bb8bbc140ef024fb74995c1c0244bad65b4096599", func := "fellwalker/felltop.TopKnots", spec := "topKnots", unfollowed := true, recurses := true, apart := false }
def TopKnotsSaid : Prop := topKnotsRow.holds Try.pinned (OpenSpec.ofChange topKnotsSpec)

/-- ITS FALSE NEIGHBOUR: 'it returns false'. Refute it at one input. -/
def topKnotsWrong : ChangeSpec := { name := "topKnots", fn := fun _ => fun
  | [d] => { results := [.lit (.bool false)], args := [d] }
  | _ => none }
def TopKnotsWrongFalsely : Prop := topKnotsRow.holds Try.pinned (OpenSpec.ofChange topKnotsWrong)

/- THE SECOND FORM. 'bulk': how many values and letters a reading holds, each counted each time it is reached (what is shared counts as often as it is met; a slice's spare places count too). A statement '..UptoSaid' is the law's where the arguments, and the package variables that the reading takes, are together of bulk at most 1048576: NARROWER than '..Said'. Prove '..Said' where nothing that the law and all that it calls make is longer than what came in: it says more and counts as full. Else prove '..UptoSaid'. A law counts once. -/
mutual
def uptoBulk {H : Type} : DataW H → Nat
  | .lit (.string bytes) => bytes.length + 1
  | .lit _ => 1
  | .nil => 1
  | .ptr d => uptoBulk d + 1
  | .slice elems spare => uptoBulkAll elems + uptoBulkAll spare + 1
  | .agg parts => uptoBulkAll parts + 1
  | .iface _ d => uptoBulk d + 1
  | .map entries => uptoBulkEntries entries + 1
  | .held _ => 1
def uptoBulkAll {H : Type} : List (DataW H) → Nat
  | [] => 0
  | d :: r => uptoBulk d + uptoBulkAll r
def uptoBulkEntries {H : Type} : List (Lit × DataW H) → Nat
  | [] => 0
  | x :: r => uptoBulkEntry x + uptoBulkEntries r
def uptoBulkEntry {H : Type} : Lit × DataW H → Nat
  | (.string bytes, d) => bytes.length + uptoBulk d + 1
  | (_, d) => uptoBulk d + 1
 end
def uptoSmall : (H : Type) → List (DataW H) → Bool := fun _ ds => decide (uptoBulkAll ds ≤ 1048576)
def OpenSpec.upto (s : _root_.Go.ChangeSpec) : _root_.Go.OpenSpec := { _root_.Go.OpenSpec.ofChange s with cond := some uptoSmall }

/-- 'felllaw.CompSays', WHERE WHAT IT READS IS OF BULK AT MOST 1048576: true; the input reads as it did. -/
def compSaysUptoRow : OpenClaim := { program := "ytkklgnfimkojlaa", sum := "4ad644befbdf8c048588628bb8bbc140ef024fb74995c1c0244bad65b4096599", func := "fellwalker/felllaw.CompSays", spec := "compSays", unfollowed := true, recurses := true, apart := false, narrowed := true }
def CompSaysUptoSaid : Prop := compSaysUptoRow.holds Try.pinned (OpenSpec.upto compSaysSpec)

/-- 'felllaw.DagSays', WHERE WHAT IT READS IS OF BULK AT MOST 1048576: true; the input reads as it did. -/
def dagSaysUptoRow : OpenClaim := { program := "ytkklgnfimkojlaa", sum := "4ad644befbdf8c048588628bb8bbc140ef024fb74995c1c0244bad65b4096599", func := "fellwalker/felllaw.DagSays", spec := "dagSays", unfollowed := true, recurses := true, apart := false, narrowed := true }
def DagSaysUptoSaid : Prop := dagSaysUptoRow.holds Try.pinned (OpenSpec.upto dagSaysSpec)

/-- 'fellkeep.CompLeads', WHERE WHAT IT READS IS OF BULK AT MOST 1048576: true; the input reads as it did. -/
def compLeadsUptoRow : OpenClaim := { program := "ytkklgnfimkojlaa", sum := "4ad644befbdf8c048588628bb8bbc140ef024fb74995c1c0244bad65b4096599", func := "fellwalker/fellkeep.CompLeads", spec := "compLeads", unfollowed := true, recurses := true, apart := false, narrowed := true }
def CompLeadsUptoSaid : Prop := compLeadsUptoRow.holds Try.pinned (OpenSpec.upto compLeadsSpec)

/-- 'fellkeep.CompOrder', WHERE WHAT IT READS IS OF BULK AT MOST 1048576: true; the input reads as it did. -/
def compOrderUptoRow : OpenClaim := { program := "ytkklgnfimkojlaa", sum := "4ad644befbdf8c048588628bb8bbc140ef024fb74995c1c0244bad65b4096599", func := "fellwalker/fellkeep.CompOrder", spec := "compOrder", unfollowed := true, recurses := true, apart := false, narrowed := true }
def CompOrderUptoSaid : Prop := compOrderUptoRow.holds Try.pinned (OpenSpec.upto compOrderSpec)

/-- 'fellkeep.DagForward', WHERE WHAT IT READS IS OF BULK AT MOST 1048576: true; the input reads as it did. -/
def dagForwardUptoRow : OpenClaim := { program := "ytkklgnfimkojlaa", sum := "4ad644befbdf8c048588628bb8bbc140ef024fb74995c1c0244bad65b4096599", func := "fellwalker/fellkeep.DagForward", spec := "dagForward", unfollowed := true, recurses := true, apart := false, narrowed := true }
def DagForwardUptoSaid : Prop := dagForwardUptoRow.holds Try.pinned (OpenSpec.upto dagForwardSpec)

/-- 'fellkeep.DagKnots', WHERE WHAT IT READS IS OF BULK AT MOST 1048576: true; the input reads as it did. -/
def dagKnotsUptoRow : OpenClaim := { program := "ytkklgnfimkojlaa", sum := "4ad644befbdf8c048588628bb8bbc140ef024fb74995c1c0244bad65b4096599", func := "fellwalker/fellkeep.DagKnots", spec := "dagKnots", unfollowed := true, recurses := true, apart := false, narrowed := true }
def DagKnotsUptoSaid : Prop := dagKnotsUptoRow.holds Try.pinned (OpenSpec.upto dagKnotsSpec)

/-- 'fellkeep.DagTight', WHERE WHAT IT READS IS OF BULK AT MOST 1048576: true; the input reads as it did. -/
def dagTightUptoRow : OpenClaim := { program := "ytkklgnfimkojlaa", sum := "4ad644befbdf8c048588628bb8bbc140ef024fb74995c1c0244bad65b4096599", func := "fellwalker/fellkeep.DagTight", spec := "dagTight", unfollowed := true, recurses := true, apart := false, narrowed := true }
def DagTightUptoSaid : Prop := dagTightUptoRow.holds Try.pinned (OpenSpec.upto dagTightSpec)

/-- 'felltop.TopKnots', WHERE WHAT IT READS IS OF BULK AT MOST 1048576: true; the input reads as it did. -/
def topKnotsUptoRow : OpenClaim := { program := "ytkklgnfimkojlaa", sum := "4ad644befbdf8c048588628bb8bbc140ef024fb74995c1c0244bad65b4096599", func := "fellwalker/felltop.TopKnots", spec := "topKnots", unfollowed := true, recurses := true, apart := false, narrowed := true }
def TopKnotsUptoSaid : Prop := topKnotsUptoRow.holds Try.pinned (OpenSpec.upto topKnotsSpec)

end Rows
end Go.Proofs.Ytkklgnfimkojlaa
