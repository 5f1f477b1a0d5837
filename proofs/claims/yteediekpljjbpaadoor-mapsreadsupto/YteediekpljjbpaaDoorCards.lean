/-
  DERIVED. GIVEN WITH THE SEED: THE CARDS: each row of YteediekpljjbpaaDoorRows.lean that lists a variable, with what it lists TIED to the program's text (the seventh form; the later family's looks); each row that meets fmt, with fmt's text TOLD by the authors' own Lean function (tested against real Go, not proved from fmt's source: count such statements apart). THE CARD IS WHAT COUNTS. Prove the row's statement (the work); the ties are given (YteediekpljjbpaaDoorTie.lean); close each card by the builder's one call (the guide's Derived/Test/ToyasCard.lean, 'card_holds'). Laid BY PROGRAM, IN A SANDBOX (cutbox-door.mjs). By AI agents, Wed Nov 11 2026. No macro, syntax, notation, axiom, sorry.
-/
import Derived.Test.YteediekpljjbpaaDoorRows
import GoSem.ClaimSeven
namespace Go.Proofs.YteediekpljjbpaaDoor
namespace Rows

/-- THE TIED CARD OF 'felllaw.MapsReads'. -/
def mapsReadsCard : Claim7 := { stood := { row := mapsReadsRow, standIns := [], harness := (true, "10d6ec33b78f05440bee0d0c8087ecbc16b9a4a8bc6fecf26fda0ffe7f274811"), looks := false }, kinds := [], alts := [], laidByText := true, laidKinds := [.data, .pinned], laidTests := true, laidLooks := .later }
def MapsReadsCardSaid : Prop := Claim7.holds Tryd.pinned (.plain (OpenSpec.ofChange mapsReadsSpec)) mapsReadsCard

/-- THE TIED CARD OF 'felllaw.NetGrids'. -/
def netGridsCard : Claim7 := { stood := { row := netGridsRow, standIns := [], harness := (true, "10d6ec33b78f05440bee0d0c8087ecbc16b9a4a8bc6fecf26fda0ffe7f274811"), looks := false }, kinds := [], alts := [], laidByText := true, laidKinds := [.data], laidTests := true, laidLooks := .later }
def NetGridsCardSaid : Prop := Claim7.holds Tryd.pinned (.plain (OpenSpec.ofChange netGridsSpec)) netGridsCard

/-- THE SECOND FORM's CARD OF 'felllaw.MapsReads'. -/
def mapsReadsUptoCard : Claim7 := { stood := { row := mapsReadsUptoRow, standIns := [], harness := (true, "10d6ec33b78f05440bee0d0c8087ecbc16b9a4a8bc6fecf26fda0ffe7f274811"), looks := false }, kinds := [], alts := [], laidByText := true, laidKinds := [.data, .pinned], laidTests := true, laidLooks := .later }
def MapsReadsUptoCardSaid : Prop := Claim7.holds Tryd.pinned (.plain (OpenSpec.upto mapsReadsSpec)) mapsReadsUptoCard

/-- THE SECOND FORM's CARD OF 'felllaw.NetGrids'. -/
def netGridsUptoCard : Claim7 := { stood := { row := netGridsUptoRow, standIns := [], harness := (true, "10d6ec33b78f05440bee0d0c8087ecbc16b9a4a8bc6fecf26fda0ffe7f274811"), looks := false }, kinds := [], alts := [], laidByText := true, laidKinds := [.data], laidTests := true, laidLooks := .later }
def NetGridsUptoCardSaid : Prop := Claim7.holds Tryd.pinned (.plain (OpenSpec.upto netGridsSpec)) netGridsUptoCard
end Rows
end Go.Proofs.YteediekpljjbpaaDoor
