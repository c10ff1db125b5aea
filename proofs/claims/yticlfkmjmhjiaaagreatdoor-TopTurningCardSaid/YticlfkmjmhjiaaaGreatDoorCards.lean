/-
  DERIVED. GIVEN WITH THE SEED: THE CARDS: each row of YticlfkmjmhjiaaaGreatDoorRows.lean that lists a variable, with what it lists TIED to the program's text (the seventh form; the later family's looks); each row that meets fmt, with fmt's text TOLD by the authors' own Lean function (tested against real Go, not proved from fmt's source: count such statements apart). THE CARD IS WHAT COUNTS. Prove the row's statement (the work); the ties are given (YticlfkmjmhjiaaaGreatDoorTie.lean); close each card by the builder's one call (the guide's Derived/Test/ToyasCard.lean, 'card_holds'). Laid BY PROGRAM, IN A SANDBOX (cutbox-door.mjs). By AI agents, Wed Nov 11 2026. No macro, syntax, notation, axiom, sorry.
-/
import Derived.Test.YticlfkmjmhjiaaaGreatDoorRows
import GoSem.ClaimSeven
namespace Go.Proofs.YticlfkmjmhjiaaaGreatDoor
namespace Rows

/-- THE TIED CARD OF 'vitolatop.TopTurning'. -/
def topTurningCard : Claim7 := { stood := { row := topTurningRow, standIns := [], harness := (true, "83046600c19082731ea505f35f4fb388a3328e74a6d5287cad1f9e6ccbb75446"), looks := true }, kinds := [], alts := [], laidByText := true, laidKinds := [.data], laidTests := true, laidLooks := .later }
def TopTurningCardSaid : Prop := Claim7.holds Tryz.pinned (.plain (OpenSpec.ofChange topTurningSpec)) topTurningCard

/-- THE TIED CARD OF 'vitolatop.TopGapped'. -/
def topGappedCard : Claim7 := { stood := { row := topGappedRow, standIns := [], harness := (true, "83046600c19082731ea505f35f4fb388a3328e74a6d5287cad1f9e6ccbb75446"), looks := true }, kinds := [], alts := [], laidByText := true, laidKinds := [.data], laidTests := true, laidLooks := .later }
def TopGappedCardSaid : Prop := Claim7.holds Tryz.pinned (.plain (OpenSpec.ofChange topGappedSpec)) topGappedCard

/-- THE SECOND FORM's CARD OF 'vitolatop.TopTurning'. -/
def topTurningUptoCard : Claim7 := { stood := { row := topTurningUptoRow, standIns := [], harness := (true, "83046600c19082731ea505f35f4fb388a3328e74a6d5287cad1f9e6ccbb75446"), looks := true }, kinds := [], alts := [], laidByText := true, laidKinds := [.data], laidTests := true, laidLooks := .later }
def TopTurningUptoCardSaid : Prop := Claim7.holds Tryz.pinned (.plain (OpenSpec.upto topTurningSpec)) topTurningUptoCard

/-- THE SECOND FORM's CARD OF 'vitolatop.TopGapped'. -/
def topGappedUptoCard : Claim7 := { stood := { row := topGappedUptoRow, standIns := [], harness := (true, "83046600c19082731ea505f35f4fb388a3328e74a6d5287cad1f9e6ccbb75446"), looks := true }, kinds := [], alts := [], laidByText := true, laidKinds := [.data], laidTests := true, laidLooks := .later }
def TopGappedUptoCardSaid : Prop := Claim7.holds Tryz.pinned (.plain (OpenSpec.upto topGappedSpec)) topGappedUptoCard
end Rows
end Go.Proofs.YticlfkmjmhjiaaaGreatDoor
