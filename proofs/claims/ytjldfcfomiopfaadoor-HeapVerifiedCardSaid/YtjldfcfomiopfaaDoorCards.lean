/-
  DERIVED. GIVEN WITH THE SEED: THE CARDS: each row of YtjldfcfomiopfaaDoorRows.lean that lists a variable, with what it lists TIED to the program's text (the seventh form; the later family's looks); each row that meets fmt, with fmt's text TOLD by the authors' own Lean function (tested against real Go, not proved from fmt's source: count such statements apart). THE CARD IS WHAT COUNTS. Prove the row's statement (the work); the ties are given (YtjldfcfomiopfaaDoorTie.lean); close each card by the builder's one call (the guide's Derived/Test/ToyasCard.lean, 'card_holds'). Laid BY PROGRAM, IN A SANDBOX (cutbox-door.mjs). By AI agents, Wed Nov 11 2026. No macro, syntax, notation, axiom, sorry.
-/
import Derived.Test.YtjldfcfomiopfaaDoorRows
import GoSem.ClaimSeven
namespace Go.Proofs.YtjldfcfomiopfaaDoor
namespace Rows

/-- THE TIED CARD OF 'vitolalaw02.HeapPlans'. -/
def heapPlansCard : Claim7 := { stood := { row := heapPlansRow, standIns := [], harness := (true, "c81d79441d49198fce5a30873c4fcfc40d1248fd768c373a72bbb32d6c829f62"), looks := false }, kinds := [], alts := [], laidByText := true, laidKinds := [.data], laidTests := true, laidLooks := .later }
def HeapPlansCardSaid : Prop := Claim7.holds Tryd.pinned (.plain (OpenSpec.ofChange heapPlansSpec)) heapPlansCard

/-- THE TIED CARD OF 'vitolalaw02.HeapWhys'. -/
def heapWhysCard : Claim7 := { stood := { row := heapWhysRow, standIns := [], harness := (true, "c81d79441d49198fce5a30873c4fcfc40d1248fd768c373a72bbb32d6c829f62"), looks := false }, kinds := [], alts := [], laidByText := true, laidKinds := [.data], laidTests := true, laidLooks := .later }
def HeapWhysCardSaid : Prop := Claim7.holds Tryd.pinned (.plain (OpenSpec.ofChange heapWhysSpec)) heapWhysCard

/-- THE TIED CARD OF 'vitolalaw02.HeapKeeps'. -/
def heapKeepsCard : Claim7 := { stood := { row := heapKeepsRow, standIns := [], harness := (true, "c81d79441d49198fce5a30873c4fcfc40d1248fd768c373a72bbb32d6c829f62"), looks := false }, kinds := [], alts := [], laidByText := true, laidKinds := [.data], laidTests := true, laidLooks := .later }
def HeapKeepsCardSaid : Prop := Claim7.holds Tryd.pinned (.plain (OpenSpec.ofChange heapKeepsSpec)) heapKeepsCard

/-- THE TIED CARD OF 'vitolalaw02.HeapHours'. -/
def heapHoursCard : Claim7 := { stood := { row := heapHoursRow, standIns := [], harness := (true, "c81d79441d49198fce5a30873c4fcfc40d1248fd768c373a72bbb32d6c829f62"), looks := false }, kinds := [], alts := [], laidByText := true, laidKinds := [.data], laidTests := true, laidLooks := .later }
def HeapHoursCardSaid : Prop := Claim7.holds Tryd.pinned (.plain (OpenSpec.ofChange heapHoursSpec)) heapHoursCard

/-- THE TIED CARD OF 'vitolalaw02.HeapHall'. -/
def heapHallCard : Claim7 := { stood := { row := heapHallRow, standIns := [], harness := (true, "c81d79441d49198fce5a30873c4fcfc40d1248fd768c373a72bbb32d6c829f62"), looks := false }, kinds := [], alts := [], laidByText := true, laidKinds := [.data], laidTests := true, laidLooks := .later }
def HeapHallCardSaid : Prop := Claim7.holds Tryd.pinned (.plain (OpenSpec.ofChange heapHallSpec)) heapHallCard

/-- THE TIED CARD OF 'vitolalaw02.HeapVerified'. -/
def heapVerifiedCard : Claim7 := { stood := { row := heapVerifiedRow, standIns := [], harness := (true, "c81d79441d49198fce5a30873c4fcfc40d1248fd768c373a72bbb32d6c829f62"), looks := false }, kinds := [], alts := [], laidByText := true, laidKinds := [.data], laidTests := true, laidLooks := .later }
def HeapVerifiedCardSaid : Prop := Claim7.holds Tryd.pinned (.plain (OpenSpec.ofChange heapVerifiedSpec)) heapVerifiedCard

/-- THE TIED CARD OF 'vitolalaw02.HeapEnds'. -/
def heapEndsCard : Claim7 := { stood := { row := heapEndsRow, standIns := [], harness := (true, "c81d79441d49198fce5a30873c4fcfc40d1248fd768c373a72bbb32d6c829f62"), looks := false }, kinds := [], alts := [], laidByText := true, laidKinds := [.data], laidTests := true, laidLooks := .later }
def HeapEndsCardSaid : Prop := Claim7.holds Tryd.pinned (.plain (OpenSpec.ofChange heapEndsSpec)) heapEndsCard

/-- THE TIED CARD OF 'vitolalaw02.HeapKept'. -/
def heapKeptCard : Claim7 := { stood := { row := heapKeptRow, standIns := [], harness := (true, "c81d79441d49198fce5a30873c4fcfc40d1248fd768c373a72bbb32d6c829f62"), looks := false }, kinds := [], alts := [], laidByText := true, laidKinds := [.data], laidTests := true, laidLooks := .later }
def HeapKeptCardSaid : Prop := Claim7.holds Tryd.pinned (.plain (OpenSpec.ofChange heapKeptSpec)) heapKeptCard

/-- THE TIED CARD OF 'vitolalaw02.HeapDual'. -/
def heapDualCard : Claim7 := { stood := { row := heapDualRow, standIns := [], harness := (true, "c81d79441d49198fce5a30873c4fcfc40d1248fd768c373a72bbb32d6c829f62"), looks := false }, kinds := [], alts := [], laidByText := true, laidKinds := [.data], laidTests := true, laidLooks := .later }
def HeapDualCardSaid : Prop := Claim7.holds Tryd.pinned (.plain (OpenSpec.ofChange heapDualSpec)) heapDualCard

/-- THE TIED CARD OF 'vitolalaw02.HeapMoved'. -/
def heapMovedCard : Claim7 := { stood := { row := heapMovedRow, standIns := [], harness := (true, "c81d79441d49198fce5a30873c4fcfc40d1248fd768c373a72bbb32d6c829f62"), looks := false }, kinds := [], alts := [], laidByText := true, laidKinds := [.data], laidTests := true, laidLooks := .later }
def HeapMovedCardSaid : Prop := Claim7.holds Tryd.pinned (.plain (OpenSpec.ofChange heapMovedSpec)) heapMovedCard

/-- THE TIED CARD OF 'vitolalaw02.HeapMore'. -/
def heapMoreCard : Claim7 := { stood := { row := heapMoreRow, standIns := [], harness := (true, "c81d79441d49198fce5a30873c4fcfc40d1248fd768c373a72bbb32d6c829f62"), looks := false }, kinds := [], alts := [], laidByText := true, laidKinds := [.data], laidTests := true, laidLooks := .later }
def HeapMoreCardSaid : Prop := Claim7.holds Tryd.pinned (.plain (OpenSpec.ofChange heapMoreSpec)) heapMoreCard

/-- THE TIED CARD OF 'vitolalaw02.HeapKnown'. -/
def heapKnownCard : Claim7 := { stood := { row := heapKnownRow, standIns := [], harness := (true, "c81d79441d49198fce5a30873c4fcfc40d1248fd768c373a72bbb32d6c829f62"), looks := false }, kinds := [], alts := [], laidByText := true, laidKinds := [.data], laidTests := true, laidLooks := .later }
def HeapKnownCardSaid : Prop := Claim7.holds Tryd.pinned (.plain (OpenSpec.ofChange heapKnownSpec)) heapKnownCard

/-- THE SECOND FORM's CARD OF 'vitolalaw02.HeapPlans'. -/
def heapPlansUptoCard : Claim7 := { stood := { row := heapPlansUptoRow, standIns := [], harness := (true, "c81d79441d49198fce5a30873c4fcfc40d1248fd768c373a72bbb32d6c829f62"), looks := false }, kinds := [], alts := [], laidByText := true, laidKinds := [.data], laidTests := true, laidLooks := .later }
def HeapPlansUptoCardSaid : Prop := Claim7.holds Tryd.pinned (.plain (OpenSpec.upto heapPlansSpec)) heapPlansUptoCard

/-- THE SECOND FORM's CARD OF 'vitolalaw02.HeapWhys'. -/
def heapWhysUptoCard : Claim7 := { stood := { row := heapWhysUptoRow, standIns := [], harness := (true, "c81d79441d49198fce5a30873c4fcfc40d1248fd768c373a72bbb32d6c829f62"), looks := false }, kinds := [], alts := [], laidByText := true, laidKinds := [.data], laidTests := true, laidLooks := .later }
def HeapWhysUptoCardSaid : Prop := Claim7.holds Tryd.pinned (.plain (OpenSpec.upto heapWhysSpec)) heapWhysUptoCard

/-- THE SECOND FORM's CARD OF 'vitolalaw02.HeapKeeps'. -/
def heapKeepsUptoCard : Claim7 := { stood := { row := heapKeepsUptoRow, standIns := [], harness := (true, "c81d79441d49198fce5a30873c4fcfc40d1248fd768c373a72bbb32d6c829f62"), looks := false }, kinds := [], alts := [], laidByText := true, laidKinds := [.data], laidTests := true, laidLooks := .later }
def HeapKeepsUptoCardSaid : Prop := Claim7.holds Tryd.pinned (.plain (OpenSpec.upto heapKeepsSpec)) heapKeepsUptoCard

/-- THE SECOND FORM's CARD OF 'vitolalaw02.HeapHours'. -/
def heapHoursUptoCard : Claim7 := { stood := { row := heapHoursUptoRow, standIns := [], harness := (true, "c81d79441d49198fce5a30873c4fcfc40d1248fd768c373a72bbb32d6c829f62"), looks := false }, kinds := [], alts := [], laidByText := true, laidKinds := [.data], laidTests := true, laidLooks := .later }
def HeapHoursUptoCardSaid : Prop := Claim7.holds Tryd.pinned (.plain (OpenSpec.upto heapHoursSpec)) heapHoursUptoCard

/-- THE SECOND FORM's CARD OF 'vitolalaw02.HeapHall'. -/
def heapHallUptoCard : Claim7 := { stood := { row := heapHallUptoRow, standIns := [], harness := (true, "c81d79441d49198fce5a30873c4fcfc40d1248fd768c373a72bbb32d6c829f62"), looks := false }, kinds := [], alts := [], laidByText := true, laidKinds := [.data], laidTests := true, laidLooks := .later }
def HeapHallUptoCardSaid : Prop := Claim7.holds Tryd.pinned (.plain (OpenSpec.upto heapHallSpec)) heapHallUptoCard

/-- THE SECOND FORM's CARD OF 'vitolalaw02.HeapVerified'. -/
def heapVerifiedUptoCard : Claim7 := { stood := { row := heapVerifiedUptoRow, standIns := [], harness := (true, "c81d79441d49198fce5a30873c4fcfc40d1248fd768c373a72bbb32d6c829f62"), looks := false }, kinds := [], alts := [], laidByText := true, laidKinds := [.data], laidTests := true, laidLooks := .later }
def HeapVerifiedUptoCardSaid : Prop := Claim7.holds Tryd.pinned (.plain (OpenSpec.upto heapVerifiedSpec)) heapVerifiedUptoCard

/-- THE SECOND FORM's CARD OF 'vitolalaw02.HeapEnds'. -/
def heapEndsUptoCard : Claim7 := { stood := { row := heapEndsUptoRow, standIns := [], harness := (true, "c81d79441d49198fce5a30873c4fcfc40d1248fd768c373a72bbb32d6c829f62"), looks := false }, kinds := [], alts := [], laidByText := true, laidKinds := [.data], laidTests := true, laidLooks := .later }
def HeapEndsUptoCardSaid : Prop := Claim7.holds Tryd.pinned (.plain (OpenSpec.upto heapEndsSpec)) heapEndsUptoCard

/-- THE SECOND FORM's CARD OF 'vitolalaw02.HeapKept'. -/
def heapKeptUptoCard : Claim7 := { stood := { row := heapKeptUptoRow, standIns := [], harness := (true, "c81d79441d49198fce5a30873c4fcfc40d1248fd768c373a72bbb32d6c829f62"), looks := false }, kinds := [], alts := [], laidByText := true, laidKinds := [.data], laidTests := true, laidLooks := .later }
def HeapKeptUptoCardSaid : Prop := Claim7.holds Tryd.pinned (.plain (OpenSpec.upto heapKeptSpec)) heapKeptUptoCard

/-- THE SECOND FORM's CARD OF 'vitolalaw02.HeapDual'. -/
def heapDualUptoCard : Claim7 := { stood := { row := heapDualUptoRow, standIns := [], harness := (true, "c81d79441d49198fce5a30873c4fcfc40d1248fd768c373a72bbb32d6c829f62"), looks := false }, kinds := [], alts := [], laidByText := true, laidKinds := [.data], laidTests := true, laidLooks := .later }
def HeapDualUptoCardSaid : Prop := Claim7.holds Tryd.pinned (.plain (OpenSpec.upto heapDualSpec)) heapDualUptoCard

/-- THE SECOND FORM's CARD OF 'vitolalaw02.HeapMoved'. -/
def heapMovedUptoCard : Claim7 := { stood := { row := heapMovedUptoRow, standIns := [], harness := (true, "c81d79441d49198fce5a30873c4fcfc40d1248fd768c373a72bbb32d6c829f62"), looks := false }, kinds := [], alts := [], laidByText := true, laidKinds := [.data], laidTests := true, laidLooks := .later }
def HeapMovedUptoCardSaid : Prop := Claim7.holds Tryd.pinned (.plain (OpenSpec.upto heapMovedSpec)) heapMovedUptoCard

/-- THE SECOND FORM's CARD OF 'vitolalaw02.HeapMore'. -/
def heapMoreUptoCard : Claim7 := { stood := { row := heapMoreUptoRow, standIns := [], harness := (true, "c81d79441d49198fce5a30873c4fcfc40d1248fd768c373a72bbb32d6c829f62"), looks := false }, kinds := [], alts := [], laidByText := true, laidKinds := [.data], laidTests := true, laidLooks := .later }
def HeapMoreUptoCardSaid : Prop := Claim7.holds Tryd.pinned (.plain (OpenSpec.upto heapMoreSpec)) heapMoreUptoCard

/-- THE SECOND FORM's CARD OF 'vitolalaw02.HeapKnown'. -/
def heapKnownUptoCard : Claim7 := { stood := { row := heapKnownUptoRow, standIns := [], harness := (true, "c81d79441d49198fce5a30873c4fcfc40d1248fd768c373a72bbb32d6c829f62"), looks := false }, kinds := [], alts := [], laidByText := true, laidKinds := [.data], laidTests := true, laidLooks := .later }
def HeapKnownUptoCardSaid : Prop := Claim7.holds Tryd.pinned (.plain (OpenSpec.upto heapKnownSpec)) heapKnownUptoCard
end Rows
end Go.Proofs.YtjldfcfomiopfaaDoor
