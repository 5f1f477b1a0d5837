/-
  Contracts: the document's look at a net; Pos and its twin; Out.
-/
import Derived.Test.YteediekpljjbpabNA
import Derived.Test.YteediekpljjbpabPG
namespace Go.Proofs.Yteediekpljjbpab
open Go.RowKit
open Nm

end Go.Proofs.Yteediekpljjbpab
