/-
  No cell of these rows narrows 'for every input' (looked for: loops, veiled, ifaces, maps, wideKeys, modest, calm, conditions, laid).
  DERIVED. THE GIVEN ROWS OF THIS SEAT. 12 by the template 'for every input the law returns true; each argument reads behind the call as it read before'; 0 by the template 'total and deterministic' (their statements: YtjaefngmidllgaaTotals.lean).
  GIVEN WITH THE SEED: the statements are not yours to turn. If you find one false, say at which input.
  Laid BY PROGRAM, IN A SANDBOX (cutbox-rows.mjs): the forced cells as the released guide's own fill.sh prints them over the translation 5ea46a63e27e447e… (all of the seat's roots in one cut). By AI agents, Wed Nov 11 2026. No macro, syntax, notation, axiom, sorry.
-/
import Derived.Test.YtjaefngmidllgaaChecked
import GoSem.Claim
import GoSem.ClaimJoined
import GoSem.ClaimMapViews
import Derived.JoinedTies
import Derived.KernelRfl
namespace Go.Proofs.Ytjaefngmidllgaa
/- THE CELL 'sum', in the pinned program and in every row, IS THE sha256 OF THE DUMP (.gsa) THAT YtjaefngmidllgaaProg.lean LOADS. Nothing in Lean hashes anything: it is a label: what it is worth is what the hold of that sum in a sandbox is worth. -/
noncomputable def Try.pinned : Pinned := { name := "ytjaefngmidllgaa", sum := "5ea46a63e27e447e6dfbbea764102bd26a93ef8e89213401334b1547bfa446d2", checked := Try.checked }
namespace Rows
def none {H : Type} : Left H := { results := [], args := [] }

/-- 'vitolalaw11.StoreDivides': WHATEVER THE INPUT: true; the input reads as it did. -/
def storeDividesSpec : ChangeSpec := { name := "storeDivides", fn := fun _ => fun
  | [d1, d2, d3, d4] => { results := [.lit (.bool true)], args := [d1, d2, d3, d4] }
  | _ => none }
def storeDividesRow : OpenClaim := { program := "ytjaefngmidllgaa", sum := "5ea46a63e27e447e6dfbbea764102bd26a93ef8e89213401334b1547bfa446d2", func := "vitola/vitolalaw11.StoreDivides", spec := "storeDivides", recurses := true, plainKeys := false, apart := false }
def StoreDividesSaid : Prop := storeDividesRow.holds Try.pinned (OpenSpec.ofChange storeDividesSpec)

/-- ITS FALSE NEIGHBOUR: 'it returns false'. Refute it at one input. -/
def storeDividesWrong : ChangeSpec := { name := "storeDivides", fn := fun _ => fun
  | [d1, d2, d3, d4] => { results := [.lit (.bool false)], args := [d1, d2, d3, d4] }
  | _ => none }
def StoreDividesWrongFalsely : Prop := storeDividesRow.holds Try.pinned (OpenSpec.ofChange storeDividesWrong)

/-- 'vitolalaw11.StoreJoins': WHATEVER THE INPUT: true; the input reads as it did. -/
def storeJoinsSpec : ChangeSpec := { name := "storeJoins", fn := fun _ => fun
  | [d1, d2] => { results := [.lit (.bool true)], args := [d1, d2] }
  | _ => none }
def storeJoinsRow : OpenClaim := { program := "ytjaefngmidllgaa", sum := "5ea46a63e27e447e6dfbbea764102bd26a93ef8e89213401334b1547bfa446d2", func := "vitola/vitolalaw11.StoreJoins", spec := "storeJoins", recurses := true, plainKeys := false, apart := false }
def StoreJoinsSaid : Prop := storeJoinsRow.holds Try.pinned (OpenSpec.ofChange storeJoinsSpec)

/-- ITS FALSE NEIGHBOUR: 'it returns false'. Refute it at one input. -/
def storeJoinsWrong : ChangeSpec := { name := "storeJoins", fn := fun _ => fun
  | [d1, d2] => { results := [.lit (.bool false)], args := [d1, d2] }
  | _ => none }
def StoreJoinsWrongFalsely : Prop := storeJoinsRow.holds Try.pinned (OpenSpec.ofChange storeJoinsWrong)

/-- 'vitolalaw11.StoreGaps': WHATEVER THE INPUT: true; the input reads as it did. -/
def storeGapsSpec : ChangeSpec := { name := "storeGaps", fn := fun _ => fun
  | [d1, d2] => { results := [.lit (.bool true)], args := [d1, d2] }
  | _ => none }
def storeGapsRow : OpenClaim := { program := "ytjaefngmidllgaa", sum := "5ea46a63e27e447e6dfbbea764102bd26a93ef8e89213401334b1547bfa446d2", func := "vitola/vitolalaw11.StoreGaps", spec := "storeGaps", recurses := true, plainKeys := false, apart := false }
def StoreGapsSaid : Prop := storeGapsRow.holds Try.pinned (OpenSpec.ofChange storeGapsSpec)

/-- ITS FALSE NEIGHBOUR: 'it returns false'. Refute it at one input. -/
def storeGapsWrong : ChangeSpec := { name := "storeGaps", fn := fun _ => fun
  | [d1, d2] => { results := [.lit (.bool false)], args := [d1, d2] }
  | _ => none }
def StoreGapsWrongFalsely : Prop := storeGapsRow.holds Try.pinned (OpenSpec.ofChange storeGapsWrong)

/-- 'vitolalaw11.StoreKreweras': WHATEVER THE INPUT: true; the input reads as it did. -/
def storeKrewerasSpec : ChangeSpec := { name := "storeKreweras", fn := fun _ => fun
  | [d] => { results := [.lit (.bool true)], args := [d] }
  | _ => none }
def storeKrewerasRow : OpenClaim := { program := "ytjaefngmidllgaa", sum := "5ea46a63e27e447e6dfbbea764102bd26a93ef8e89213401334b1547bfa446d2", func := "vitola/vitolalaw11.StoreKreweras", spec := "storeKreweras", unfollowed := true, recurses := true, plainKeys := false, apart := false }
def StoreKrewerasSaid : Prop := storeKrewerasRow.holds Try.pinned (OpenSpec.ofChange storeKrewerasSpec)

/-- ITS FALSE NEIGHBOUR: 'it returns false'. Refute it at one input. -/
def storeKrewerasWrong : ChangeSpec := { name := "storeKreweras", fn := fun _ => fun
  | [d] => { results := [.lit (.bool false)], args := [d] }
  | _ => none }
def StoreKrewerasWrongFalsely : Prop := storeKrewerasRow.holds Try.pinned (OpenSpec.ofChange storeKrewerasWrong)

/-- 'vitolalaw11.StoreTwice': WHATEVER THE INPUT: true; the input reads as it did. -/
def storeTwiceSpec : ChangeSpec := { name := "storeTwice", fn := fun _ => fun
  | [d] => { results := [.lit (.bool true)], args := [d] }
  | _ => none }
def storeTwiceRow : OpenClaim := { program := "ytjaefngmidllgaa", sum := "5ea46a63e27e447e6dfbbea764102bd26a93ef8e89213401334b1547bfa446d2", func := "vitola/vitolalaw11.StoreTwice", spec := "storeTwice", recurses := true, plainKeys := false, apart := false }
def StoreTwiceSaid : Prop := storeTwiceRow.holds Try.pinned (OpenSpec.ofChange storeTwiceSpec)

/-- ITS FALSE NEIGHBOUR: 'it returns false'. Refute it at one input. -/
def storeTwiceWrong : ChangeSpec := { name := "storeTwice", fn := fun _ => fun
  | [d] => { results := [.lit (.bool false)], args := [d] }
  | _ => none }
def StoreTwiceWrongFalsely : Prop := storeTwiceRow.holds Try.pinned (OpenSpec.ofChange storeTwiceWrong)

/-- 'vitolalaw11.StoreCrossed': WHATEVER THE INPUT: true; the input reads as it did. -/
def storeCrossedSpec : ChangeSpec := { name := "storeCrossed", fn := fun _ => fun
  | [d] => { results := [.lit (.bool true)], args := [d] }
  | _ => none }
def storeCrossedRow : OpenClaim := { program := "ytjaefngmidllgaa", sum := "5ea46a63e27e447e6dfbbea764102bd26a93ef8e89213401334b1547bfa446d2", func := "vitola/vitolalaw11.StoreCrossed", spec := "storeCrossed", unfollowed := true, recurses := true, plainKeys := false, apart := false }
def StoreCrossedSaid : Prop := storeCrossedRow.holds Try.pinned (OpenSpec.ofChange storeCrossedSpec)

/-- ITS FALSE NEIGHBOUR: 'it returns false'. Refute it at one input. -/
def storeCrossedWrong : ChangeSpec := { name := "storeCrossed", fn := fun _ => fun
  | [d] => { results := [.lit (.bool false)], args := [d] }
  | _ => none }
def StoreCrossedWrongFalsely : Prop := storeCrossedRow.holds Try.pinned (OpenSpec.ofChange storeCrossedWrong)

/-- 'vitolalaw11.StoreCounted': WHATEVER THE INPUT: true; the input reads as it did. -/
def storeCountedSpec : ChangeSpec := { name := "storeCounted", fn := fun _ => fun
  | [d] => { results := [.lit (.bool true)], args := [d] }
  | _ => none }
def storeCountedRow : OpenClaim := { program := "ytjaefngmidllgaa", sum := "5ea46a63e27e447e6dfbbea764102bd26a93ef8e89213401334b1547bfa446d2", func := "vitola/vitolalaw11.StoreCounted", spec := "storeCounted", unfollowed := true, recurses := true, plainKeys := false, apart := false }
def StoreCountedSaid : Prop := storeCountedRow.holds Try.pinned (OpenSpec.ofChange storeCountedSpec)

/-- ITS FALSE NEIGHBOUR: 'it returns false'. Refute it at one input. -/
def storeCountedWrong : ChangeSpec := { name := "storeCounted", fn := fun _ => fun
  | [d] => { results := [.lit (.bool false)], args := [d] }
  | _ => none }
def StoreCountedWrongFalsely : Prop := storeCountedRow.holds Try.pinned (OpenSpec.ofChange storeCountedWrong)

/-- 'vitolalaw11.StoreRows': WHATEVER THE INPUT: true; the input reads as it did. -/
def storeRowsSpec : ChangeSpec := { name := "storeRows", fn := fun _ => fun
  | [d1, d2] => { results := [.lit (.bool true)], args := [d1, d2] }
  | _ => none }
def storeRowsRow : OpenClaim := { program := "ytjaefngmidllgaa", sum := "5ea46a63e27e447e6dfbbea764102bd26a93ef8e89213401334b1547bfa446d2", func := "vitola/vitolalaw11.StoreRows", spec := "storeRows", unfollowed := true, recurses := true, plainKeys := false, apart := false }
def StoreRowsSaid : Prop := storeRowsRow.holds Try.pinned (OpenSpec.ofChange storeRowsSpec)

/-- ITS FALSE NEIGHBOUR: 'it returns false'. Refute it at one input. -/
def storeRowsWrong : ChangeSpec := { name := "storeRows", fn := fun _ => fun
  | [d1, d2] => { results := [.lit (.bool false)], args := [d1, d2] }
  | _ => none }
def StoreRowsWrongFalsely : Prop := storeRowsRow.holds Try.pinned (OpenSpec.ofChange storeRowsWrong)

/-- 'vitolalaw11.StoreLattice': WHATEVER THE INPUT: true; the input reads as it did. -/
def storeLatticeSpec : ChangeSpec := { name := "storeLattice", fn := fun _ => fun
  | [d] => { results := [.lit (.bool true)], args := [d] }
  | _ => none }
def storeLatticeRow : OpenClaim := { program := "ytjaefngmidllgaa", sum := "5ea46a63e27e447e6dfbbea764102bd26a93ef8e89213401334b1547bfa446d2", func := "vitola/vitolalaw11.StoreLattice", spec := "storeLattice", unfollowed := true, recurses := true, plainKeys := false, apart := false }
def StoreLatticeSaid : Prop := storeLatticeRow.holds Try.pinned (OpenSpec.ofChange storeLatticeSpec)

/-- ITS FALSE NEIGHBOUR: 'it returns false'. Refute it at one input. -/
def storeLatticeWrong : ChangeSpec := { name := "storeLattice", fn := fun _ => fun
  | [d] => { results := [.lit (.bool false)], args := [d] }
  | _ => none }
def StoreLatticeWrongFalsely : Prop := storeLatticeRow.holds Try.pinned (OpenSpec.ofChange storeLatticeWrong)

/-- 'vitolalaw11.StoreFlat': WHATEVER THE INPUT: true; the input reads as it did. -/
def storeFlatSpec : ChangeSpec := { name := "storeFlat", fn := fun _ => fun
  | [d] => { results := [.lit (.bool true)], args := [d] }
  | _ => none }
def storeFlatRow : OpenClaim := { program := "ytjaefngmidllgaa", sum := "5ea46a63e27e447e6dfbbea764102bd26a93ef8e89213401334b1547bfa446d2", func := "vitola/vitolalaw11.StoreFlat", spec := "storeFlat", recurses := true, plainKeys := false, apart := false }
def StoreFlatSaid : Prop := storeFlatRow.holds Try.pinned (OpenSpec.ofChange storeFlatSpec)

/-- ITS FALSE NEIGHBOUR: 'it returns false'. Refute it at one input. -/
def storeFlatWrong : ChangeSpec := { name := "storeFlat", fn := fun _ => fun
  | [d] => { results := [.lit (.bool false)], args := [d] }
  | _ => none }
def StoreFlatWrongFalsely : Prop := storeFlatRow.holds Try.pinned (OpenSpec.ofChange storeFlatWrong)

/-- 'vitolalaw11.StoreTurned': WHATEVER THE INPUT: true; the input reads as it did. -/
def storeTurnedSpec : ChangeSpec := { name := "storeTurned", fn := fun _ => fun
  | [d] => { results := [.lit (.bool true)], args := [d] }
  | _ => none }
def storeTurnedRow : OpenClaim := { program := "ytjaefngmidllgaa", sum := "5ea46a63e27e447e6dfbbea764102bd26a93ef8e89213401334b1547bfa446d2", func := "vitola/vitolalaw11.StoreTurned", spec := "storeTurned", recurses := true, plainKeys := false, apart := false }
def StoreTurnedSaid : Prop := storeTurnedRow.holds Try.pinned (OpenSpec.ofChange storeTurnedSpec)

/-- ITS FALSE NEIGHBOUR: 'it returns false'. Refute it at one input. -/
def storeTurnedWrong : ChangeSpec := { name := "storeTurned", fn := fun _ => fun
  | [d] => { results := [.lit (.bool false)], args := [d] }
  | _ => none }
def StoreTurnedWrongFalsely : Prop := storeTurnedRow.holds Try.pinned (OpenSpec.ofChange storeTurnedWrong)

/-- 'vitolalaw11.StoreKnown': WHATEVER THE INPUT: true; the input reads as it did. -/
def storeKnownSpec : ChangeSpec := { name := "storeKnown", fn := fun _ => fun
  | [] => { results := [.lit (.bool true)], args := [] }
  | _ => none }
def storeKnownRow : OpenClaim := { program := "ytjaefngmidllgaa", sum := "5ea46a63e27e447e6dfbbea764102bd26a93ef8e89213401334b1547bfa446d2", func := "vitola/vitolalaw11.StoreKnown", spec := "storeKnown", recurses := true, plainKeys := false, apart := false }
def StoreKnownSaid : Prop := storeKnownRow.holds Try.pinned (OpenSpec.ofChange storeKnownSpec)

/-- ITS FALSE NEIGHBOUR: 'it returns false'. Refute it at one input. -/
def storeKnownWrong : ChangeSpec := { name := "storeKnown", fn := fun _ => fun
  | [] => { results := [.lit (.bool false)], args := [] }
  | _ => none }
def StoreKnownWrongFalsely : Prop := storeKnownRow.holds Try.pinned (OpenSpec.ofChange storeKnownWrong)

/- THE SECOND FORM. 'bulk': how many values and letters a reading holds, each counted each time it is reached (what is shared counts as often as it is met; a slice's spare places count too). A statement '..UptoSaid' is the law's where the arguments, and the package variables that the reading takes, are together of bulk at most 1048576: NARROWER than '..Said'. Prove '..Said' where nothing that the law and all that it calls make is longer than what came in: it says more and counts as full. Else prove '..UptoSaid'. A law counts once. -/
mutual
def uptoBulk {H : Type} : DataW H → Nat
  | .lit (.string bytes) => bytes.length + 1
  | .lit _ => 1
  | .nil => 1
  | .ptr d => uptoBulk d + 1
  | .slice elems spare => uptoBulkAll elems + uptoBulkAll spare + 1
  | .agg parts => uptoBulkAll parts + 1
  | .iface _ d => uptoBulk d + 1
  | .map entries => uptoBulkEntries entries + 1
  | .held _ => 1
def uptoBulkAll {H : Type} : List (DataW H) → Nat
  | [] => 0
  | d :: r => uptoBulk d + uptoBulkAll r
def uptoBulkEntries {H : Type} : List (Lit × DataW H) → Nat
  | [] => 0
  | x :: r => uptoBulkEntry x + uptoBulkEntries r
def uptoBulkEntry {H : Type} : Lit × DataW H → Nat
  | (.string bytes, d) => bytes.length + uptoBulk d + 1
  | (_, d) => uptoBulk d + 1
 end
def uptoSmall : (H : Type) → List (DataW H) → Bool := fun _ ds => decide (uptoBulkAll ds ≤ 1048576)
def OpenSpec.upto (s : _root_.Go.ChangeSpec) : _root_.Go.OpenSpec := { _root_.Go.OpenSpec.ofChange s with cond := some uptoSmall }

/-- 'vitolalaw11.StoreDivides', WHERE WHAT IT READS IS OF BULK AT MOST 1048576: true; the input reads as it did. -/
def storeDividesUptoRow : OpenClaim := { program := "ytjaefngmidllgaa", sum := "5ea46a63e27e447e6dfbbea764102bd26a93ef8e89213401334b1547bfa446d2", func := "vitola/vitolalaw11.StoreDivides", spec := "storeDivides", recurses := true, plainKeys := false, apart := false, narrowed := true }
def StoreDividesUptoSaid : Prop := storeDividesUptoRow.holds Try.pinned (OpenSpec.upto storeDividesSpec)

/-- 'vitolalaw11.StoreJoins', WHERE WHAT IT READS IS OF BULK AT MOST 1048576: true; the input reads as it did. -/
def storeJoinsUptoRow : OpenClaim := { program := "ytjaefngmidllgaa", sum := "5ea46a63e27e447e6dfbbea764102bd26a93ef8e89213401334b1547bfa446d2", func := "vitola/vitolalaw11.StoreJoins", spec := "storeJoins", recurses := true, plainKeys := false, apart := false, narrowed := true }
def StoreJoinsUptoSaid : Prop := storeJoinsUptoRow.holds Try.pinned (OpenSpec.upto storeJoinsSpec)

/-- 'vitolalaw11.StoreGaps', WHERE WHAT IT READS IS OF BULK AT MOST 1048576: true; the input reads as it did. -/
def storeGapsUptoRow : OpenClaim := { program := "ytjaefngmidllgaa", sum := "5ea46a63e27e447e6dfbbea764102bd26a93ef8e89213401334b1547bfa446d2", func := "vitola/vitolalaw11.StoreGaps", spec := "storeGaps", recurses := true, plainKeys := false, apart := false, narrowed := true }
def StoreGapsUptoSaid : Prop := storeGapsUptoRow.holds Try.pinned (OpenSpec.upto storeGapsSpec)

/-- 'vitolalaw11.StoreKreweras', WHERE WHAT IT READS IS OF BULK AT MOST 1048576: true; the input reads as it did. -/
def storeKrewerasUptoRow : OpenClaim := { program := "ytjaefngmidllgaa", sum := "5ea46a63e27e447e6dfbbea764102bd26a93ef8e89213401334b1547bfa446d2", func := "vitola/vitolalaw11.StoreKreweras", spec := "storeKreweras", unfollowed := true, recurses := true, plainKeys := false, apart := false, narrowed := true }
def StoreKrewerasUptoSaid : Prop := storeKrewerasUptoRow.holds Try.pinned (OpenSpec.upto storeKrewerasSpec)

/-- 'vitolalaw11.StoreTwice', WHERE WHAT IT READS IS OF BULK AT MOST 1048576: true; the input reads as it did. -/
def storeTwiceUptoRow : OpenClaim := { program := "ytjaefngmidllgaa", sum := "5ea46a63e27e447e6dfbbea764102bd26a93ef8e89213401334b1547bfa446d2", func := "vitola/vitolalaw11.StoreTwice", spec := "storeTwice", recurses := true, plainKeys := false, apart := false, narrowed := true }
def StoreTwiceUptoSaid : Prop := storeTwiceUptoRow.holds Try.pinned (OpenSpec.upto storeTwiceSpec)

/-- 'vitolalaw11.StoreCrossed', WHERE WHAT IT READS IS OF BULK AT MOST 1048576: true; the input reads as it did. -/
def storeCrossedUptoRow : OpenClaim := { program := "ytjaefngmidllgaa", sum := "5ea46a63e27e447e6dfbbea764102bd26a93ef8e89213401334b1547bfa446d2", func := "vitola/vitolalaw11.StoreCrossed", spec := "storeCrossed", unfollowed := true, recurses := true, plainKeys := false, apart := false, narrowed := true }
def StoreCrossedUptoSaid : Prop := storeCrossedUptoRow.holds Try.pinned (OpenSpec.upto storeCrossedSpec)

/-- 'vitolalaw11.StoreCounted', WHERE WHAT IT READS IS OF BULK AT MOST 1048576: true; the input reads as it did. -/
def storeCountedUptoRow : OpenClaim := { program := "ytjaefngmidllgaa", sum := "5ea46a63e27e447e6dfbbea764102bd26a93ef8e89213401334b1547bfa446d2", func := "vitola/vitolalaw11.StoreCounted", spec := "storeCounted", unfollowed := true, recurses := true, plainKeys := false, apart := false, narrowed := true }
def StoreCountedUptoSaid : Prop := storeCountedUptoRow.holds Try.pinned (OpenSpec.upto storeCountedSpec)

/-- 'vitolalaw11.StoreRows', WHERE WHAT IT READS IS OF BULK AT MOST 1048576: true; the input reads as it did. -/
def storeRowsUptoRow : OpenClaim := { program := "ytjaefngmidllgaa", sum := "5ea46a63e27e447e6dfbbea764102bd26a93ef8e89213401334b1547bfa446d2", func := "vitola/vitolalaw11.StoreRows", spec := "storeRows", unfollowed := true, recurses := true, plainKeys := false, apart := false, narrowed := true }
def StoreRowsUptoSaid : Prop := storeRowsUptoRow.holds Try.pinned (OpenSpec.upto storeRowsSpec)

/-- 'vitolalaw11.StoreLattice', WHERE WHAT IT READS IS OF BULK AT MOST 1048576: true; the input reads as it did. -/
def storeLatticeUptoRow : OpenClaim := { program := "ytjaefngmidllgaa", sum := "5ea46a63e27e447e6dfbbea764102bd26a93ef8e89213401334b1547bfa446d2", func := "vitola/vitolalaw11.StoreLattice", spec := "storeLattice", unfollowed := true, recurses := true, plainKeys := false, apart := false, narrowed := true }
def StoreLatticeUptoSaid : Prop := storeLatticeUptoRow.holds Try.pinned (OpenSpec.upto storeLatticeSpec)

/-- 'vitolalaw11.StoreFlat', WHERE WHAT IT READS IS OF BULK AT MOST 1048576: true; the input reads as it did. -/
def storeFlatUptoRow : OpenClaim := { program := "ytjaefngmidllgaa", sum := "5ea46a63e27e447e6dfbbea764102bd26a93ef8e89213401334b1547bfa446d2", func := "vitola/vitolalaw11.StoreFlat", spec := "storeFlat", recurses := true, plainKeys := false, apart := false, narrowed := true }
def StoreFlatUptoSaid : Prop := storeFlatUptoRow.holds Try.pinned (OpenSpec.upto storeFlatSpec)

/-- 'vitolalaw11.StoreTurned', WHERE WHAT IT READS IS OF BULK AT MOST 1048576: true; the input reads as it did. -/
def storeTurnedUptoRow : OpenClaim := { program := "ytjaefngmidllgaa", sum := "5ea46a63e27e447e6dfbbea764102bd26a93ef8e89213401334b1547bfa446d2", func := "vitola/vitolalaw11.StoreTurned", spec := "storeTurned", recurses := true, plainKeys := false, apart := false, narrowed := true }
def StoreTurnedUptoSaid : Prop := storeTurnedUptoRow.holds Try.pinned (OpenSpec.upto storeTurnedSpec)

/-- 'vitolalaw11.StoreKnown', WHERE WHAT IT READS IS OF BULK AT MOST 1048576: true; the input reads as it did. -/
def storeKnownUptoRow : OpenClaim := { program := "ytjaefngmidllgaa", sum := "5ea46a63e27e447e6dfbbea764102bd26a93ef8e89213401334b1547bfa446d2", func := "vitola/vitolalaw11.StoreKnown", spec := "storeKnown", recurses := true, plainKeys := false, apart := false, narrowed := true }
def StoreKnownUptoSaid : Prop := storeKnownUptoRow.holds Try.pinned (OpenSpec.upto storeKnownSpec)

end Rows
end Go.Proofs.Ytjaefngmidllgaa
