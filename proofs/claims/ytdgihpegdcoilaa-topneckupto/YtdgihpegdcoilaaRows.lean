/-
  No cell of these rows narrows 'for every input' (looked for: loops, veiled, ifaces, maps, wideKeys, modest, calm, conditions, laid).
  DERIVED. THE GIVEN ROWS OF THIS SEAT. 9 by the template 'for every input the law returns true; each argument reads behind the call as it read before'; 0 by the template 'total and deterministic' (their statements: YtdgihpegdcoilaaTotals.lean).
  GIVEN WITH THE SEED: the statements are not yours to turn. If you find one false, say at which input.
  Laid BY PROGRAM, IN A SANDBOX (cutbox-rows.mjs): the forced cells as the released guide's own fill.sh prints them over the translation ace2a30df55bfe43… (all of the seat's roots in one cut). By AI agents, Wed Nov 11 2026. No macro, syntax, notation, axiom, sorry.
-/
import Derived.Test.YtdgihpegdcoilaaChecked
import GoSem.Claim
import GoSem.ClaimJoined
import GoSem.ClaimMapViews
import Derived.JoinedTies
import Derived.KernelRfl
namespace Go.Proofs.Ytdgihpegdcoilaa
/- THE CELL 'sum', in the pinned program and in every row, IS THE sha256 OF THE DUMP (.gsa) THAT YtdgihpegdcoilaaProg.lean LOADS. Nothing in Lean hashes anything: it is a label: what it is worth is what the hold of that sum in a sandbox is worth. -/
noncomputable def Try.pinned : Pinned := { name := "ytdgihpegdcoilaa", sum := "ace2a30df55bfe43ce73eff10976671793678b4dafac6f324c99e5700b67aa22", checked := Try.checked }
namespace Rows
def none {H : Type} : Left H := { results := [], args := [] }

/-- 'felllaw.UnionSays': WHATEVER THE INPUT: true; the input reads as it did. -/
def unionSaysSpec : ChangeSpec := { name := "unionSays", fn := fun _ => fun
  | [d1, d2] => { results := [.lit (.bool true)], args := [d1, d2] }
  | _ => none }
def unionSaysRow : OpenClaim := { program := "ytdgihpegdcoilaa", sum := "ace2a30df55bfe43ce73eff10976671793678b4dafac6f324c99e5700b67aa22", func := "fellwalker/felllaw.UnionSays", spec := "unionSays", apart := false }
def UnionSaysSaid : Prop := unionSaysRow.holds Try.pinned (OpenSpec.ofChange unionSaysSpec)

/-- ITS FALSE NEIGHBOUR: 'it returns false'. Refute it at one input. -/
def unionSaysWrong : ChangeSpec := { name := "unionSays", fn := fun _ => fun
  | [d1, d2] => { results := [.lit (.bool false)], args := [d1, d2] }
  | _ => none }
def UnionSaysWrongFalsely : Prop := unionSaysRow.holds Try.pinned (OpenSpec.ofChange unionSaysWrong)

/-- 'felllaw.SpanTrees': WHATEVER THE INPUT: true; the input reads as it did. -/
def spanTreesSpec : ChangeSpec := { name := "spanTrees", fn := fun _ => fun
  | [d] => { results := [.lit (.bool true)], args := [d] }
  | _ => none }
def spanTreesRow : OpenClaim := { program := "ytdgihpegdcoilaa", sum := "ace2a30df55bfe43ce73eff10976671793678b4dafac6f324c99e5700b67aa22", func := "fellwalker/felllaw.SpanTrees", spec := "spanTrees", inPlace := ["slices.overlaps[fellwalker/api.Pop]"], unfollowed := true, recurses := true, apart := false }
def SpanTreesSaid : Prop := spanTreesRow.holds Try.pinned (OpenSpec.ofChange spanTreesSpec)

/-- ITS FALSE NEIGHBOUR: 'it returns false'. Refute it at one input. -/
def spanTreesWrong : ChangeSpec := { name := "spanTrees", fn := fun _ => fun
  | [d] => { results := [.lit (.bool false)], args := [d] }
  | _ => none }
def SpanTreesWrongFalsely : Prop := spanTreesRow.holds Try.pinned (OpenSpec.ofChange spanTreesWrong)

/-- 'felllaw.SpanNecks': WHATEVER THE INPUT: true; the input reads as it did. -/
def spanNecksSpec : ChangeSpec := { name := "spanNecks", fn := fun _ => fun
  | [d1, d2, d3] => { results := [.lit (.bool true)], args := [d1, d2, d3] }
  | _ => none }
def spanNecksRow : OpenClaim := { program := "ytdgihpegdcoilaa", sum := "ace2a30df55bfe43ce73eff10976671793678b4dafac6f324c99e5700b67aa22", func := "fellwalker/felllaw.SpanNecks", spec := "spanNecks", unfollowed := true, recurses := true, apart := false }
def SpanNecksSaid : Prop := spanNecksRow.holds Try.pinned (OpenSpec.ofChange spanNecksSpec)

/-- ITS FALSE NEIGHBOUR: 'it returns false'. Refute it at one input. -/
def spanNecksWrong : ChangeSpec := { name := "spanNecks", fn := fun _ => fun
  | [d1, d2, d3] => { results := [.lit (.bool false)], args := [d1, d2, d3] }
  | _ => none }
def SpanNecksWrongFalsely : Prop := spanNecksRow.holds Try.pinned (OpenSpec.ofChange spanNecksWrong)

/-- 'fellkeep.UnionOne': WHATEVER THE INPUT: true; the input reads as it did. -/
def unionOneSpec : ChangeSpec := { name := "unionOne", fn := fun _ => fun
  | [d1, d2, d3] => { results := [.lit (.bool true)], args := [d1, d2, d3] }
  | _ => none }
def unionOneRow : OpenClaim := { program := "ytdgihpegdcoilaa", sum := "ace2a30df55bfe43ce73eff10976671793678b4dafac6f324c99e5700b67aa22", func := "fellwalker/fellkeep.UnionOne", spec := "unionOne", apart := false }
def UnionOneSaid : Prop := unionOneRow.holds Try.pinned (OpenSpec.ofChange unionOneSpec)

/-- ITS FALSE NEIGHBOUR: 'it returns false'. Refute it at one input. -/
def unionOneWrong : ChangeSpec := { name := "unionOne", fn := fun _ => fun
  | [d1, d2, d3] => { results := [.lit (.bool false)], args := [d1, d2, d3] }
  | _ => none }
def UnionOneWrongFalsely : Prop := unionOneRow.holds Try.pinned (OpenSpec.ofChange unionOneWrong)

/-- 'fellkeep.UnionLeast': WHATEVER THE INPUT: true; the input reads as it did. -/
def unionLeastSpec : ChangeSpec := { name := "unionLeast", fn := fun _ => fun
  | [d1, d2] => { results := [.lit (.bool true)], args := [d1, d2] }
  | _ => none }
def unionLeastRow : OpenClaim := { program := "ytdgihpegdcoilaa", sum := "ace2a30df55bfe43ce73eff10976671793678b4dafac6f324c99e5700b67aa22", func := "fellwalker/fellkeep.UnionLeast", spec := "unionLeast", apart := false }
def UnionLeastSaid : Prop := unionLeastRow.holds Try.pinned (OpenSpec.ofChange unionLeastSpec)

/-- ITS FALSE NEIGHBOUR: 'it returns false'. Refute it at one input. -/
def unionLeastWrong : ChangeSpec := { name := "unionLeast", fn := fun _ => fun
  | [d1, d2] => { results := [.lit (.bool false)], args := [d1, d2] }
  | _ => none }
def UnionLeastWrongFalsely : Prop := unionLeastRow.holds Try.pinned (OpenSpec.ofChange unionLeastWrong)

/-- 'fellkeep.SpanJoins': WHATEVER THE INPUT: true; the input reads as it did. -/
def spanJoinsSpec : ChangeSpec := { name := "spanJoins", fn := fun _ => fun
  | [d] => { results := [.lit (.bool true)], args := [d] }
  | _ => none }
def spanJoinsRow : OpenClaim := { program := "ytdgihpegdcoilaa", sum := "ace2a30df55bfe43ce73eff10976671793678b4dafac6f324c99e5700b67aa22", func := "fellwalker/fellkeep.SpanJoins", spec := "spanJoins", unfollowed := true, recurses := true, apart := false }
def SpanJoinsSaid : Prop := spanJoinsRow.holds Try.pinned (OpenSpec.ofChange spanJoinsSpec)

/-- ITS FALSE NEIGHBOUR: 'it returns false'. Refute it at one input. -/
def spanJoinsWrong : ChangeSpec := { name := "spanJoins", fn := fun _ => fun
  | [d] => { results := [.lit (.bool false)], args := [d] }
  | _ => none }
def SpanJoinsWrongFalsely : Prop := spanJoinsRow.holds Try.pinned (OpenSpec.ofChange spanJoinsWrong)

/-- 'fellkeep.SpanLeast': WHATEVER THE INPUT: true; the input reads as it did. -/
def spanLeastSpec : ChangeSpec := { name := "spanLeast", fn := fun _ => fun
  | [d1, d2] => { results := [.lit (.bool true)], args := [d1, d2] }
  | _ => none }
def spanLeastRow : OpenClaim := { program := "ytdgihpegdcoilaa", sum := "ace2a30df55bfe43ce73eff10976671793678b4dafac6f324c99e5700b67aa22", func := "fellwalker/fellkeep.SpanLeast", spec := "spanLeast", unfollowed := true, recurses := true, apart := false }
def SpanLeastSaid : Prop := spanLeastRow.holds Try.pinned (OpenSpec.ofChange spanLeastSpec)

/-- ITS FALSE NEIGHBOUR: 'it returns false'. Refute it at one input. -/
def spanLeastWrong : ChangeSpec := { name := "spanLeast", fn := fun _ => fun
  | [d1, d2] => { results := [.lit (.bool false)], args := [d1, d2] }
  | _ => none }
def SpanLeastWrongFalsely : Prop := spanLeastRow.holds Try.pinned (OpenSpec.ofChange spanLeastWrong)

/-- 'fellkeep.SpanNeck': WHATEVER THE INPUT: true; the input reads as it did. -/
def spanNeckSpec : ChangeSpec := { name := "spanNeck", fn := fun _ => fun
  | [d1, d2, d3] => { results := [.lit (.bool true)], args := [d1, d2, d3] }
  | _ => none }
def spanNeckRow : OpenClaim := { program := "ytdgihpegdcoilaa", sum := "ace2a30df55bfe43ce73eff10976671793678b4dafac6f324c99e5700b67aa22", func := "fellwalker/fellkeep.SpanNeck", spec := "spanNeck", unfollowed := true, recurses := true, apart := false }
def SpanNeckSaid : Prop := spanNeckRow.holds Try.pinned (OpenSpec.ofChange spanNeckSpec)

/-- ITS FALSE NEIGHBOUR: 'it returns false'. Refute it at one input. -/
def spanNeckWrong : ChangeSpec := { name := "spanNeck", fn := fun _ => fun
  | [d1, d2, d3] => { results := [.lit (.bool false)], args := [d1, d2, d3] }
  | _ => none }
def SpanNeckWrongFalsely : Prop := spanNeckRow.holds Try.pinned (OpenSpec.ofChange spanNeckWrong)

/-- 'felltop.TopNeck': WHATEVER THE INPUT: true; the input reads as it did. -/
def topNeckSpec : ChangeSpec := { name := "topNeck", fn := fun _ => fun
  | [d1, d2, d3] => { results := [.lit (.bool true)], args := [d1, d2, d3] }
  | _ => none }
def topNeckRow : OpenClaim := { program := "ytdgihpegdcoilaa", sum := "ace2a30df55bfe43ce73eff10976671793678b4dafac6f324c99e5700b67aa22", func := "fellwalker/felltop.TopNeck", spec := "topNeck", unfollowed := true, recurses := true, apart := false }
def TopNeckSaid : Prop := topNeckRow.holds Try.pinned (OpenSpec.ofChange topNeckSpec)

/-- ITS FALSE NEIGHBOUR: 'it returns false'. Refute it at one input. -/
def topNeckWrong : ChangeSpec := { name := "topNeck", fn := fun _ => fun
  | [d1, d2, d3] => { results := [.lit (.bool false)], args := [d1, d2, d3] }
  | _ => none }
def TopNeckWrongFalsely : Prop := topNeckRow.holds Try.pinned (OpenSpec.ofChange topNeckWrong)

/- THE SECOND FORM. 'bulk': how many values and letters a reading holds, each counted each time it is reached (what is shared counts as often as it is met; a slice's spare places count too). A statement '..UptoSaid' is the law's where the arguments, and the package variables that the reading takes, are together of bulk at most 1048576: NARROWER than '..Said'. Prove '..Said' where nothing that the law and all that it calls make is longer than what came in: it says more and counts as full. Else prove '..UptoSaid'. A law counts once. -/
mutual
def uptoBulk {H : Type} : DataW H → Nat
  | .lit (.string bytes) => bytes.length + 1
  | .lit _ => 1
  | .nil => 1
  | .ptr d => uptoBulk d + 1
  | .slice elems spare => uptoBulkAll elems + uptoBulkAll spare + 1
  | .agg parts => uptoBulkAll parts + 1
  | .iface _ d => uptoBulk d + 1
  | .map entries => uptoBulkEntries entries + 1
  | .held _ => 1
def uptoBulkAll {H : Type} : List (DataW H) → Nat
  | [] => 0
  | d :: r => uptoBulk d + uptoBulkAll r
def uptoBulkEntries {H : Type} : List (Lit × DataW H) → Nat
  | [] => 0
  | x :: r => uptoBulkEntry x + uptoBulkEntries r
def uptoBulkEntry {H : Type} : Lit × DataW H → Nat
  | (.string bytes, d) => bytes.length + uptoBulk d + 1
  | (_, d) => uptoBulk d + 1
 end
def uptoSmall : (H : Type) → List (DataW H) → Bool := fun _ ds => decide (uptoBulkAll ds ≤ 1048576)
def OpenSpec.upto (s : _root_.Go.ChangeSpec) : _root_.Go.OpenSpec := { _root_.Go.OpenSpec.ofChange s with cond := some uptoSmall }

/-- 'felllaw.UnionSays', WHERE WHAT IT READS IS OF BULK AT MOST 1048576: true; the input reads as it did. -/
def unionSaysUptoRow : OpenClaim := { program := "ytdgihpegdcoilaa", sum := "ace2a30df55bfe43ce73eff10976671793678b4dafac6f324c99e5700b67aa22", func := "fellwalker/felllaw.UnionSays", spec := "unionSays", apart := false, narrowed := true }
def UnionSaysUptoSaid : Prop := unionSaysUptoRow.holds Try.pinned (OpenSpec.upto unionSaysSpec)

/-- 'felllaw.SpanTrees', WHERE WHAT IT READS IS OF BULK AT MOST 1048576: true; the input reads as it did. -/
def spanTreesUptoRow : OpenClaim := { program := "ytdgihpegdcoilaa", sum := "ace2a30df55bfe43ce73eff10976671793678b4dafac6f324c99e5700b67aa22", func := "fellwalker/felllaw.SpanTrees", spec := "spanTrees", inPlace := ["slices.overlaps[fellwalker/api.Pop]"], unfollowed := true, recurses := true, apart := false, narrowed := true }
def SpanTreesUptoSaid : Prop := spanTreesUptoRow.holds Try.pinned (OpenSpec.upto spanTreesSpec)

/-- 'felllaw.SpanNecks', WHERE WHAT IT READS IS OF BULK AT MOST 1048576: true; the input reads as it did. -/
def spanNecksUptoRow : OpenClaim := { program := "ytdgihpegdcoilaa", sum := "ace2a30df55bfe43ce73eff10976671793678b4dafac6f324c99e5700b67aa22", func := "fellwalker/felllaw.SpanNecks", spec := "spanNecks", unfollowed := true, recurses := true, apart := false, narrowed := true }
def SpanNecksUptoSaid : Prop := spanNecksUptoRow.holds Try.pinned (OpenSpec.upto spanNecksSpec)

/-- 'fellkeep.UnionOne', WHERE WHAT IT READS IS OF BULK AT MOST 1048576: true; the input reads as it did. -/
def unionOneUptoRow : OpenClaim := { program := "ytdgihpegdcoilaa", sum := "ace2a30df55bfe43ce73eff10976671793678b4dafac6f324c99e5700b67aa22", func := "fellwalker/fellkeep.UnionOne", spec := "unionOne", apart := false, narrowed := true }
def UnionOneUptoSaid : Prop := unionOneUptoRow.holds Try.pinned (OpenSpec.upto unionOneSpec)

/-- 'fellkeep.UnionLeast', WHERE WHAT IT READS IS OF BULK AT MOST 1048576: true; the input reads as it did. -/
def unionLeastUptoRow : OpenClaim := { program := "ytdgihpegdcoilaa", sum := "ace2a30df55bfe43ce73eff10976671793678b4dafac6f324c99e5700b67aa22", func := "fellwalker/fellkeep.UnionLeast", spec := "unionLeast", apart := false, narrowed := true }
def UnionLeastUptoSaid : Prop := unionLeastUptoRow.holds Try.pinned (OpenSpec.upto unionLeastSpec)

/-- 'fellkeep.SpanJoins', WHERE WHAT IT READS IS OF BULK AT MOST 1048576: true; the input reads as it did. -/
def spanJoinsUptoRow : OpenClaim := { program := "ytdgihpegdcoilaa", sum := "ace2a30df55bfe43ce73eff10976671793678b4dafac6f324c99e5700b67aa22", func := "fellwalker/fellkeep.SpanJoins", spec := "spanJoins", unfollowed := true, recurses := true, apart := false, narrowed := true }
def SpanJoinsUptoSaid : Prop := spanJoinsUptoRow.holds Try.pinned (OpenSpec.upto spanJoinsSpec)

/-- 'fellkeep.SpanLeast', WHERE WHAT IT READS IS OF BULK AT MOST 1048576: true; the input reads as it did. -/
def spanLeastUptoRow : OpenClaim := { program := "ytdgihpegdcoilaa", sum := "ace2a30df55bfe43ce73eff10976671793678b4dafac6f324c99e5700b67aa22", func := "fellwalker/fellkeep.SpanLeast", spec := "spanLeast", unfollowed := true, recurses := true, apart := false, narrowed := true }
def SpanLeastUptoSaid : Prop := spanLeastUptoRow.holds Try.pinned (OpenSpec.upto spanLeastSpec)

/-- 'fellkeep.SpanNeck', WHERE WHAT IT READS IS OF BULK AT MOST 1048576: true; the input reads as it did. -/
def spanNeckUptoRow : OpenClaim := { program := "ytdgihpegdcoilaa", sum := "ace2a30df55bfe43ce73eff10976671793678b4dafac6f324c99e5700b67aa22", func := "fellwalker/fellkeep.SpanNeck", spec := "spanNeck", unfollowed := true, recurses := true, apart := false, narrowed := true }
def SpanNeckUptoSaid : Prop := spanNeckUptoRow.holds Try.pinned (OpenSpec.upto spanNeckSpec)

/-- 'felltop.TopNeck', WHERE WHAT IT READS IS OF BULK AT MOST 1048576: true; the input reads as it did. -/
def topNeckUptoRow : OpenClaim := { program := "ytdgihpegdcoilaa", sum := "ace2a30df55bfe43ce73eff10976671793678b4dafac6f324c99e5700b67aa22", func := "fellwalker/felltop.TopNeck", spec := "topNeck", unfollowed := true, recurses := true, apart := false, narrowed := true }
def TopNeckUptoSaid : Prop := topNeckUptoRow.holds Try.pinned (OpenSpec.upto topNeckSpec)

end Rows
end Go.Proofs.Ytdgihpegdcoilaa
