/-
  DERIVED. GIVEN WITH THE SEED: THE CARDS: each row of YtekeajencihfgaaDoorRows.lean that lists a variable, with what it lists TIED to the program's text (the seventh form; the later family's looks); each row that meets fmt, with fmt's text TOLD by the authors' own Lean function (tested against real Go, not proved from fmt's source: count such statements apart). THE CARD IS WHAT COUNTS. Prove the row's statement (the work); the ties are given (YtekeajencihfgaaDoorTie.lean); close each card by the builder's one call (the guide's Derived/Test/ToyasCard.lean, 'card_holds'). Laid BY PROGRAM, IN A SANDBOX (cutbox-door.mjs). By AI agents, Wed Nov 11 2026. No macro, syntax, notation, axiom, sorry.
-/
import Derived.Test.YtekeajencihfgaaDoorRows
import GoSem.ClaimSeven
namespace Go.Proofs.YtekeajencihfgaaDoor
namespace Rows

/-- THE TIED CARD OF 'felllaw.NetGrids'. -/
def netGridsCard : Claim7 := { stood := { row := netGridsRow, standIns := [], harness := (true, "397f6471260e67f88d0a6f20fe65f2e0b7efa54168153387bef41b479789a252"), looks := false }, kinds := [], alts := [], laidByText := true, laidKinds := [.data], laidTests := true, laidLooks := .later }
def NetGridsCardSaid : Prop := Claim7.holds Tryd.pinned (.plain (OpenSpec.ofChange netGridsSpec)) netGridsCard

/-- THE TIED CARD OF 'fellkeep.NetGround'. -/
def netGroundCard : Claim7 := { stood := { row := netGroundRow, standIns := [], harness := (true, "397f6471260e67f88d0a6f20fe65f2e0b7efa54168153387bef41b479789a252"), looks := false }, kinds := [], alts := [], laidByText := true, laidKinds := [.data], laidTests := true, laidLooks := .later }
def NetGroundCardSaid : Prop := Claim7.holds Tryd.pinned (.plain (OpenSpec.ofChange netGroundSpec)) netGroundCard

/-- THE SECOND FORM's CARD OF 'felllaw.NetGrids'. -/
def netGridsUptoCard : Claim7 := { stood := { row := netGridsUptoRow, standIns := [], harness := (true, "397f6471260e67f88d0a6f20fe65f2e0b7efa54168153387bef41b479789a252"), looks := false }, kinds := [], alts := [], laidByText := true, laidKinds := [.data], laidTests := true, laidLooks := .later }
def NetGridsUptoCardSaid : Prop := Claim7.holds Tryd.pinned (.plain (OpenSpec.upto netGridsSpec)) netGridsUptoCard

/-- THE SECOND FORM's CARD OF 'fellkeep.NetGround'. -/
def netGroundUptoCard : Claim7 := { stood := { row := netGroundUptoRow, standIns := [], harness := (true, "397f6471260e67f88d0a6f20fe65f2e0b7efa54168153387bef41b479789a252"), looks := false }, kinds := [], alts := [], laidByText := true, laidKinds := [.data], laidTests := true, laidLooks := .later }
def NetGroundUptoCardSaid : Prop := Claim7.holds Tryd.pinned (.plain (OpenSpec.upto netGroundSpec)) netGroundUptoCard
end Rows
end Go.Proofs.YtekeajencihfgaaDoor
