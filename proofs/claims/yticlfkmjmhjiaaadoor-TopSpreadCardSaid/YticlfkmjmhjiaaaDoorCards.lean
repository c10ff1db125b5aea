/-
  DERIVED. GIVEN WITH THE SEED: THE CARDS: each row of YticlfkmjmhjiaaaDoorRows.lean that lists a variable, with what it lists TIED to the program's text (the seventh form; the later family's looks); each row that meets fmt, with fmt's text TOLD by the authors' own Lean function (tested against real Go, not proved from fmt's source: count such statements apart). THE CARD IS WHAT COUNTS. Prove the row's statement (the work); the ties are given (YticlfkmjmhjiaaaDoorTie.lean); close each card by the builder's one call (the guide's Derived/Test/ToyasCard.lean, 'card_holds'). Laid BY PROGRAM, IN A SANDBOX (cutbox-door.mjs). By AI agents, Wed Nov 11 2026. No macro, syntax, notation, axiom, sorry.
-/
import Derived.Test.YticlfkmjmhjiaaaDoorRows
import GoSem.ClaimSeven
namespace Go.Proofs.YticlfkmjmhjiaaaDoor
namespace Rows

/-- THE TIED CARD OF 'vitolatop.TopSpread'. -/
def topSpreadCard : Claim7 := { stood := { row := topSpreadRow, standIns := [], harness := (true, "d64c4a44a4e504cba7b186eb2ed9f9c5cf3e09d3bfd76a1506d16a60f6312734"), looks := true }, kinds := [], alts := [], laidByText := true, laidKinds := [.data], laidTests := true, laidLooks := .later }
def TopSpreadCardSaid : Prop := Claim7.holds Tryd.pinned (.plain (OpenSpec.ofChange topSpreadSpec)) topSpreadCard

/-- THE TIED CARD OF 'vitolatop.TopSlope'. -/
def topSlopeCard : Claim7 := { stood := { row := topSlopeRow, standIns := [], harness := (true, "d64c4a44a4e504cba7b186eb2ed9f9c5cf3e09d3bfd76a1506d16a60f6312734"), looks := true }, kinds := [], alts := [], laidByText := true, laidKinds := [.data], laidTests := true, laidLooks := .later }
def TopSlopeCardSaid : Prop := Claim7.holds Tryd.pinned (.plain (OpenSpec.ofChange topSlopeSpec)) topSlopeCard

/-- THE SECOND FORM's CARD OF 'vitolatop.TopSpread'. -/
def topSpreadUptoCard : Claim7 := { stood := { row := topSpreadUptoRow, standIns := [], harness := (true, "d64c4a44a4e504cba7b186eb2ed9f9c5cf3e09d3bfd76a1506d16a60f6312734"), looks := true }, kinds := [], alts := [], laidByText := true, laidKinds := [.data], laidTests := true, laidLooks := .later }
def TopSpreadUptoCardSaid : Prop := Claim7.holds Tryd.pinned (.plain (OpenSpec.upto topSpreadSpec)) topSpreadUptoCard

/-- THE SECOND FORM's CARD OF 'vitolatop.TopSlope'. -/
def topSlopeUptoCard : Claim7 := { stood := { row := topSlopeUptoRow, standIns := [], harness := (true, "d64c4a44a4e504cba7b186eb2ed9f9c5cf3e09d3bfd76a1506d16a60f6312734"), looks := true }, kinds := [], alts := [], laidByText := true, laidKinds := [.data], laidTests := true, laidLooks := .later }
def TopSlopeUptoCardSaid : Prop := Claim7.holds Tryd.pinned (.plain (OpenSpec.upto topSlopeSpec)) topSlopeUptoCard
end Rows
end Go.Proofs.YticlfkmjmhjiaaaDoor
