/-
  NARROWER THAN 'FOR EVERY INPUT', by the rows' own cells (each row's printed sentence says how): TopTurning: laid · TopGapped: laid.
  DERIVED. THE GIVEN ROWS OF THIS SEAT. 2 by the template 'for every input the law returns true; each argument reads behind the call as it read before'; 0 by the template 'total and deterministic' (their statements: YticlfkmjmhjiaaaGreatDoorTotals.lean).
  GIVEN WITH THE SEED: the statements are not yours to turn. If you find one false, say at which input.
  Laid BY PROGRAM, IN A SANDBOX (cutbox-rows.mjs): the forced cells as the released guide's own fill.sh prints them over the translation ca68b33b97eab4ca… (all of the seat's roots in one cut). By AI agents, Wed Nov 11 2026. No macro, syntax, notation, axiom, sorry.
-/
import Derived.Test.YticlfkmjmhjiaaaGreatDoorChecked
import GoSem.Claim
import GoSem.ClaimJoined
import GoSem.ClaimMapViews
import Derived.JoinedTies
import Derived.KernelRfl
namespace Go.Proofs.YticlfkmjmhjiaaaGreatDoor
/- THE CELL 'sum', in the pinned program and in every row, IS THE sha256 OF THE DUMP (.gsa) THAT YticlfkmjmhjiaaaGreatDoorProg.lean LOADS. Nothing in Lean hashes anything: it is a label: what it is worth is what the hold of that sum in a sandbox is worth. -/
noncomputable def Tryz.pinned : Pinned := { name := "yticlfkmjmhjiaaagreatdoor", sum := "ca68b33b97eab4ca496b9e3f5c19a643adb12b1862520737a27cbd6dd5538785", checked := Tryz.checked }
namespace Rows
def none {H : Type} : Left H := { results := [], args := [] }

/- WHAT THE LISTED PACKAGE-LEVEL VARIABLES READ AS WHEN THE CALL BEGINS. Each datum BY PROGRAM (the guide's laid-datum.mjs) off the statement by which the dump's own 'gosem.cut.vars' lays the variable. In a bare row this is a premise. The card (YticlfkmjmhjiaaaGreatDoorCards.lean) ties it to the program's text. -/
def laid_vitola_heap_past {H : Type} : DataW H := .agg [.lit (.int .i64 24), .lit (.int .i64 24)]

/-- 'vitolatop.TopTurning': WHATEVER THE INPUT: true; the input reads as it did. -/
def topTurningSpec : ChangeSpec := { name := "topTurning", fn := fun _ => fun
  | [d1, d2] => { results := [.lit (.bool true)], args := [d1, d2] }
  | _ => none }
def topTurningRow : OpenClaim := { program := "yticlfkmjmhjiaaagreatdoor", sum := "ca68b33b97eab4ca496b9e3f5c19a643adb12b1862520737a27cbd6dd5538785", func := "vitola/vitolatop.TopTurning", spec := "topTurning", unfollowed := true, recurses := true, named := ["vitola/heap.past"], apart := false, laid := [("vitola/heap.past", laid_vitola_heap_past)] }
def TopTurningSaid : Prop := topTurningRow.holds Tryz.pinned (OpenSpec.ofChange topTurningSpec)

/-- ITS FALSE NEIGHBOUR: 'it returns false'. Refute it at one input. -/
def topTurningWrong : ChangeSpec := { name := "topTurning", fn := fun _ => fun
  | [d1, d2] => { results := [.lit (.bool false)], args := [d1, d2] }
  | _ => none }
def TopTurningWrongFalsely : Prop := topTurningRow.holds Tryz.pinned (OpenSpec.ofChange topTurningWrong)

/-- 'vitolatop.TopGapped': WHATEVER THE INPUT: true; the input reads as it did. -/
def topGappedSpec : ChangeSpec := { name := "topGapped", fn := fun _ => fun
  | [d1, d2, d3] => { results := [.lit (.bool true)], args := [d1, d2, d3] }
  | _ => none }
def topGappedRow : OpenClaim := { program := "yticlfkmjmhjiaaagreatdoor", sum := "ca68b33b97eab4ca496b9e3f5c19a643adb12b1862520737a27cbd6dd5538785", func := "vitola/vitolatop.TopGapped", spec := "topGapped", unfollowed := true, recurses := true, named := ["vitola/heap.past"], apart := false, laid := [("vitola/heap.past", laid_vitola_heap_past)] }
def TopGappedSaid : Prop := topGappedRow.holds Tryz.pinned (OpenSpec.ofChange topGappedSpec)

/-- ITS FALSE NEIGHBOUR: 'it returns false'. Refute it at one input. -/
def topGappedWrong : ChangeSpec := { name := "topGapped", fn := fun _ => fun
  | [d1, d2, d3] => { results := [.lit (.bool false)], args := [d1, d2, d3] }
  | _ => none }
def TopGappedWrongFalsely : Prop := topGappedRow.holds Tryz.pinned (OpenSpec.ofChange topGappedWrong)

/- THE SECOND FORM. 'bulk': how many values and letters a reading holds, each counted each time it is reached (what is shared counts as often as it is met; a slice's spare places count too). A statement '..UptoSaid' is the law's where the arguments, and the package variables that the reading takes, are together of bulk at most 1048576: NARROWER than '..Said'. Prove '..Said' where nothing that the law and all that it calls make is longer than what came in: it says more and counts as full. Else prove '..UptoSaid'. A law counts once. -/
mutual
def uptoBulk {H : Type} : DataW H → Nat
  | .lit (.string bytes) => bytes.length + 1
  | .lit _ => 1
  | .nil => 1
  | .ptr d => uptoBulk d + 1
  | .slice elems spare => uptoBulkAll elems + uptoBulkAll spare + 1
  | .agg parts => uptoBulkAll parts + 1
  | .iface _ d => uptoBulk d + 1
  | .map entries => uptoBulkEntries entries + 1
  | .held _ => 1
def uptoBulkAll {H : Type} : List (DataW H) → Nat
  | [] => 0
  | d :: r => uptoBulk d + uptoBulkAll r
def uptoBulkEntries {H : Type} : List (Lit × DataW H) → Nat
  | [] => 0
  | x :: r => uptoBulkEntry x + uptoBulkEntries r
def uptoBulkEntry {H : Type} : Lit × DataW H → Nat
  | (.string bytes, d) => bytes.length + uptoBulk d + 1
  | (_, d) => uptoBulk d + 1
 end
def uptoSmall : (H : Type) → List (DataW H) → Bool := fun _ ds => decide (uptoBulkAll ds ≤ 1048576)
def OpenSpec.upto (s : _root_.Go.ChangeSpec) : _root_.Go.OpenSpec := { _root_.Go.OpenSpec.ofChange s with cond := some uptoSmall }

/-- 'vitolatop.TopTurning', WHERE WHAT IT READS IS OF BULK AT MOST 1048576: true; the input reads as it did. -/
def topTurningUptoRow : OpenClaim := { program := "yticlfkmjmhjiaaagreatdoor", sum := "ca68b33b97eab4ca496b9e3f5c19a643adb12b1862520737a27cbd6dd5538785", func := "vitola/vitolatop.TopTurning", spec := "topTurning", unfollowed := true, recurses := true, named := ["vitola/heap.past"], apart := false, laid := [("vitola/heap.past", laid_vitola_heap_past)], narrowed := true }
def TopTurningUptoSaid : Prop := topTurningUptoRow.holds Tryz.pinned (OpenSpec.upto topTurningSpec)

/-- 'vitolatop.TopGapped', WHERE WHAT IT READS IS OF BULK AT MOST 1048576: true; the input reads as it did. -/
def topGappedUptoRow : OpenClaim := { program := "yticlfkmjmhjiaaagreatdoor", sum := "ca68b33b97eab4ca496b9e3f5c19a643adb12b1862520737a27cbd6dd5538785", func := "vitola/vitolatop.TopGapped", spec := "topGapped", unfollowed := true, recurses := true, named := ["vitola/heap.past"], apart := false, laid := [("vitola/heap.past", laid_vitola_heap_past)], narrowed := true }
def TopGappedUptoSaid : Prop := topGappedUptoRow.holds Tryz.pinned (OpenSpec.upto topGappedSpec)

end Rows
end Go.Proofs.YticlfkmjmhjiaaaGreatDoor
