/-
  DERIVED. GIVEN WITH THE SEED: THE CARDS: each row of YtlghgbdelmiakaaDoorRows.lean that lists a variable, with what it lists TIED to the program's text (the seventh form; the later family's looks); each row that meets fmt, with fmt's text TOLD by the authors' own Lean function (tested against real Go, not proved from fmt's source: count such statements apart). THE CARD IS WHAT COUNTS. Prove the row's statement (the work); the ties are given (YtlghgbdelmiakaaDoorTie.lean); close each card by the builder's one call (the guide's Derived/Test/ToyasCard.lean, 'card_holds'). Laid BY PROGRAM, IN A SANDBOX (cutbox-door.mjs). By AI agents, Wed Nov 11 2026. No macro, syntax, notation, axiom, sorry.
-/
import Derived.Test.YtlghgbdelmiakaaDoorRows
import GoSem.ClaimSeven
namespace Go.Proofs.YtlghgbdelmiakaaDoor
namespace Rows

/-- THE TIED CARD OF 'vitolatop.TopWound'. -/
def topWoundCard : Claim7 := { stood := { row := topWoundRow, standIns := [], harness := (true, "8e1f82cd8b4fcd7fd3c07b1e51ed92d881ab1ad3ee937911efbf5373aa9e08a2"), looks := true }, kinds := [], alts := [], laidByText := true, laidKinds := [.data], laidTests := true, laidLooks := .later }
def TopWoundCardSaid : Prop := Claim7.holds Tryd.pinned (.plain (OpenSpec.ofChange topWoundSpec)) topWoundCard

/-- THE TIED CARD OF 'vitolatop.TopSpaced'. -/
def topSpacedCard : Claim7 := { stood := { row := topSpacedRow, standIns := [], harness := (true, "8e1f82cd8b4fcd7fd3c07b1e51ed92d881ab1ad3ee937911efbf5373aa9e08a2"), looks := true }, kinds := [], alts := [], laidByText := true, laidKinds := [.data], laidTests := true, laidLooks := .later }
def TopSpacedCardSaid : Prop := Claim7.holds Tryd.pinned (.plain (OpenSpec.ofChange topSpacedSpec)) topSpacedCard

/-- THE SECOND FORM's CARD OF 'vitolatop.TopWound'. -/
def topWoundUptoCard : Claim7 := { stood := { row := topWoundUptoRow, standIns := [], harness := (true, "8e1f82cd8b4fcd7fd3c07b1e51ed92d881ab1ad3ee937911efbf5373aa9e08a2"), looks := true }, kinds := [], alts := [], laidByText := true, laidKinds := [.data], laidTests := true, laidLooks := .later }
def TopWoundUptoCardSaid : Prop := Claim7.holds Tryd.pinned (.plain (OpenSpec.upto topWoundSpec)) topWoundUptoCard

/-- THE SECOND FORM's CARD OF 'vitolatop.TopSpaced'. -/
def topSpacedUptoCard : Claim7 := { stood := { row := topSpacedUptoRow, standIns := [], harness := (true, "8e1f82cd8b4fcd7fd3c07b1e51ed92d881ab1ad3ee937911efbf5373aa9e08a2"), looks := true }, kinds := [], alts := [], laidByText := true, laidKinds := [.data], laidTests := true, laidLooks := .later }
def TopSpacedUptoCardSaid : Prop := Claim7.holds Tryd.pinned (.plain (OpenSpec.upto topSpacedSpec)) topSpacedUptoCard
end Rows
end Go.Proofs.YtlghgbdelmiakaaDoor
