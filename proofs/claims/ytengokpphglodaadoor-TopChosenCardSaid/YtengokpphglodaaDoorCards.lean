/-
  DERIVED. GIVEN WITH THE SEED: THE CARDS: each row of YtengokpphglodaaDoorRows.lean that lists a variable, with what it lists TIED to the program's text (the seventh form; the later family's looks); each row that meets fmt, with fmt's text TOLD by the authors' own Lean function (tested against real Go, not proved from fmt's source: count such statements apart). THE CARD IS WHAT COUNTS. Prove the row's statement (the work); the ties are given (YtengokpphglodaaDoorTie.lean); close each card by the builder's one call (the guide's Derived/Test/ToyasCard.lean, 'card_holds'). Laid BY PROGRAM, IN A SANDBOX (cutbox-door.mjs). By AI agents, Wed Nov 11 2026. No macro, syntax, notation, axiom, sorry.
-/
import Derived.Test.YtengokpphglodaaDoorRows
import GoSem.ClaimSeven
namespace Go.Proofs.YtengokpphglodaaDoor
namespace Rows

/-- THE TIED CARD OF 'vitolatop.TopChosen'. -/
def topChosenCard : Claim7 := { stood := { row := topChosenRow, standIns := [], harness := (true, "bfbc0284ab1dd8317a6ad6890a0aa38d6b543c93fde49af3dea4c2d9a4c651c0"), looks := true }, kinds := [], alts := [], laidByText := true, laidKinds := [.data], laidTests := true, laidLooks := .later }
def TopChosenCardSaid : Prop := Claim7.holds Tryd.pinned (.plain (OpenSpec.ofChange topChosenSpec)) topChosenCard

/-- THE SECOND FORM's CARD OF 'vitolatop.TopChosen'. -/
def topChosenUptoCard : Claim7 := { stood := { row := topChosenUptoRow, standIns := [], harness := (true, "bfbc0284ab1dd8317a6ad6890a0aa38d6b543c93fde49af3dea4c2d9a4c651c0"), looks := true }, kinds := [], alts := [], laidByText := true, laidKinds := [.data], laidTests := true, laidLooks := .later }
def TopChosenUptoCardSaid : Prop := Claim7.holds Tryd.pinned (.plain (OpenSpec.upto topChosenSpec)) topChosenUptoCard
end Rows
end Go.Proofs.YtengokpphglodaaDoor
