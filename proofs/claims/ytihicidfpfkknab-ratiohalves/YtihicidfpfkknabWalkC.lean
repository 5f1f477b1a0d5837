/-
  Contracts: the document's answer to Check; Make and its twin; Floor and Ceil.
-/
import Derived.Test.YtihicidfpfkknabWalkB
namespace Go.Proofs.Ytihicidfpfkknab
open Go.RowKit
open Pl

theorem prt_true {n : Int} (h : prt n = true) : -1000000 ≤ n ∧ n ≤ 1000000 := of_decide_eq_true h
theorem prt_false {n : Int} (h : prt n = false) : ¬ (-1000000 ≤ n ∧ n ≤ 1000000) := of_decide_eq_false h
theorem inb_not {n d : Int} (h : ¬ (-1000000 ≤ n ∧ n ≤ 1000000 ∧ 1 ≤ d ∧ d ≤ 1000000)) : inb n d = false := decide_eq_false h

end Go.Proofs.Ytihicidfpfkknab
