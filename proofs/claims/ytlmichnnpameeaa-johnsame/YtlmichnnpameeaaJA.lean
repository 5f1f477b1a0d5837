/-
  Contracts: areHeights.
-/
import Derived.Test.YtlmichnnpameeaaNA
import Derived.Test.YtlmichnnpameeaaJm
namespace Go.Proofs.Ytlmichnnpameeaa
open Go.RowKit
open Nm Wm Dm Bm Jm

end Go.Proofs.Ytlmichnnpameeaa
