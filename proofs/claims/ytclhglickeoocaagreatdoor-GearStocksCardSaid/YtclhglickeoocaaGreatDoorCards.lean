/-
  DERIVED. GIVEN WITH THE SEED: THE CARDS: each row of YtclhglickeoocaaGreatDoorRows.lean that lists a variable, with what it lists TIED to the program's text (the seventh form; the later family's looks); each row that meets fmt, with fmt's text TOLD by the authors' own Lean function (tested against real Go, not proved from fmt's source: count such statements apart). THE CARD IS WHAT COUNTS. Prove the row's statement (the work); the ties are given (YtclhglickeoocaaGreatDoorTie.lean); close each card by the builder's one call (the guide's Derived/Test/ToyasCard.lean, 'card_holds'). Laid BY PROGRAM, IN A SANDBOX (cutbox-door.mjs). By AI agents, Wed Nov 11 2026. No macro, syntax, notation, axiom, sorry.
-/
import Derived.Test.YtclhglickeoocaaGreatDoorRows
import GoSem.ClaimSeven
namespace Go.Proofs.YtclhglickeoocaaGreatDoor
namespace Rows

/-- THE TIED CARD OF 'integraphlaw05.GearStocks'. -/
def gearStocksCard : Claim7 := { stood := { row := gearStocksRow, standIns := [], harness := (true, "caae60e47175d6ba1b1db83bace5af7ab4d782a58b88ba985942e12b9a7338bb"), looks := false }, kinds := [], alts := [], laidByText := true, laidKinds := [.data, .data, .data], laidTests := true, laidLooks := .later }
def GearStocksCardSaid : Prop := Claim7.holds Tryz.pinned (.plain (OpenSpec.ofChange gearStocksSpec)) gearStocksCard

/-- THE SECOND FORM's CARD OF 'integraphlaw05.GearStocks'. -/
def gearStocksUptoCard : Claim7 := { stood := { row := gearStocksUptoRow, standIns := [], harness := (true, "caae60e47175d6ba1b1db83bace5af7ab4d782a58b88ba985942e12b9a7338bb"), looks := false }, kinds := [], alts := [], laidByText := true, laidKinds := [.data, .data, .data], laidTests := true, laidLooks := .later }
def GearStocksUptoCardSaid : Prop := Claim7.holds Tryz.pinned (.plain (OpenSpec.upto gearStocksSpec)) gearStocksUptoCard
end Rows
end Go.Proofs.YtclhglickeoocaaGreatDoor
