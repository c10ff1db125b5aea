/-
  DERIVED. GIVEN WITH THE SEED: THE CARDS: each row of YtmlhekfkniibmaaDoorRows.lean that lists a variable, with what it lists TIED to the program's text (the seventh form; the later family's looks); each row that meets fmt, with fmt's text TOLD by the authors' own Lean function (tested against real Go, not proved from fmt's source: count such statements apart). THE CARD IS WHAT COUNTS. Prove the row's statement (the work); the ties are given (YtmlhekfkniibmaaDoorTie.lean); close each card by the builder's one call (the guide's Derived/Test/ToyasCard.lean, 'card_holds'). Laid BY PROGRAM, IN A SANDBOX (cutbox-door.mjs). By AI agents, Wed Nov 11 2026. No macro, syntax, notation, axiom, sorry.
-/
import Derived.Test.YtmlhekfkniibmaaDoorRows
import GoSem.ClaimSeven
namespace Go.Proofs.YtmlhekfkniibmaaDoor
namespace Rows

/-- THE TIED CARD OF 'vitolatop.TopMirrored'. -/
def topMirroredCard : Claim7 := { stood := { row := topMirroredRow, standIns := [], harness := (true, "43be6e6c120b5a3789c7d1fecc4aaa1fb9b1755e2c227fa557bb4f4ae6789c17"), looks := true }, kinds := [], alts := [], laidByText := true, laidKinds := [.data], laidTests := true, laidLooks := .later }
def TopMirroredCardSaid : Prop := Claim7.holds Tryd.pinned (.plain (OpenSpec.ofChange topMirroredSpec)) topMirroredCard

/-- THE TIED CARD OF 'vitolatop.TopHome'. -/
def topHomeCard : Claim7 := { stood := { row := topHomeRow, standIns := [], harness := (true, "43be6e6c120b5a3789c7d1fecc4aaa1fb9b1755e2c227fa557bb4f4ae6789c17"), looks := true }, kinds := [], alts := [], laidByText := true, laidKinds := [.data], laidTests := true, laidLooks := .later }
def TopHomeCardSaid : Prop := Claim7.holds Tryd.pinned (.plain (OpenSpec.ofChange topHomeSpec)) topHomeCard

/-- THE SECOND FORM's CARD OF 'vitolatop.TopMirrored'. -/
def topMirroredUptoCard : Claim7 := { stood := { row := topMirroredUptoRow, standIns := [], harness := (true, "43be6e6c120b5a3789c7d1fecc4aaa1fb9b1755e2c227fa557bb4f4ae6789c17"), looks := true }, kinds := [], alts := [], laidByText := true, laidKinds := [.data], laidTests := true, laidLooks := .later }
def TopMirroredUptoCardSaid : Prop := Claim7.holds Tryd.pinned (.plain (OpenSpec.upto topMirroredSpec)) topMirroredUptoCard

/-- THE SECOND FORM's CARD OF 'vitolatop.TopHome'. -/
def topHomeUptoCard : Claim7 := { stood := { row := topHomeUptoRow, standIns := [], harness := (true, "43be6e6c120b5a3789c7d1fecc4aaa1fb9b1755e2c227fa557bb4f4ae6789c17"), looks := true }, kinds := [], alts := [], laidByText := true, laidKinds := [.data], laidTests := true, laidLooks := .later }
def TopHomeUptoCardSaid : Prop := Claim7.holds Tryd.pinned (.plain (OpenSpec.upto topHomeSpec)) topHomeUptoCard
end Rows
end Go.Proofs.YtmlhekfkniibmaaDoor
