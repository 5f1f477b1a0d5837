/-
  Contract: straight of numbers.
-/
import Derived.Test.YtkklgnfimkojlaaFB
import Derived.Deep.DeepCutAuto
import Derived.Test.YtkklgnfimkojlaaQL
import Derived.BigQuiet
namespace Go.Proofs.Ytkklgnfimkojlaa
open Go.RowKit
open Nm Wm Dm Bm Fm Fl
attribute [local go_sem ↓] Go.wp_at_zero Go.wp_at_succ

end Go.Proofs.Ytkklgnfimkojlaa
