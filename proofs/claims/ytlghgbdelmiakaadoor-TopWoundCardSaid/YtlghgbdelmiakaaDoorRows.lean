/-
  NARROWER THAN 'FOR EVERY INPUT', by the rows' own cells (each row's printed sentence says how): TopWound: laid · TopSpaced: laid.
  DERIVED. THE GIVEN ROWS OF THIS SEAT. 2 by the template 'for every input the law returns true; each argument reads behind the call as it read before'; 0 by the template 'total and deterministic' (their statements: YtlghgbdelmiakaaDoorTotals.lean).
  GIVEN WITH THE SEED: the statements are not yours to turn. If you find one false, say at which input.
  Laid BY PROGRAM, IN A SANDBOX (cutbox-rows.mjs): the forced cells as the released guide's own fill.sh prints them over the translation 899420690ea241d2… (all of the seat's roots in one cut). By AI agents, Wed Nov 11 2026. No macro, syntax, notation, axiom, sorry.
-/
import Derived.Test.YtlghgbdelmiakaaDoorChecked
import GoSem.Claim
import GoSem.ClaimJoined
import GoSem.ClaimMapViews
import Derived.JoinedTies
import Derived.KernelRfl
namespace Go.Proofs.YtlghgbdelmiakaaDoor
/- THE CELL 'sum', in the pinned program and in every row, IS THE sha256 OF THE DUMP (.gsa) THAT YtlghgbdelmiakaaDoorProg.lean LOADS. Nothing in Lean hashes anything: it is a label: what it is worth is what the hold of that sum in a sandbox is worth. -/
noncomputable def Tryd.pinned : Pinned := { name := "ytlghgbdelmiakaadoor", sum := "899420690ea241d2e3b105dd145a8cd0a39191aedd292c986266aa0274ee4340", checked := Tryd.checked }
namespace Rows
def none {H : Type} : Left H := { results := [], args := [] }

/- WHAT THE LISTED PACKAGE-LEVEL VARIABLES READ AS WHEN THE CALL BEGINS. Each datum BY PROGRAM (the guide's laid-datum.mjs) off the statement by which the dump's own 'gosem.cut.vars' lays the variable. In a bare row this is a premise. The card (YtlghgbdelmiakaaDoorCards.lean) ties it to the program's text. -/
def laid_vitola_heap_past {H : Type} : DataW H := .agg [.lit (.int .i64 24), .lit (.int .i64 24)]

/-- 'vitolatop.TopWound': WHATEVER THE INPUT: true; the input reads as it did. -/
def topWoundSpec : ChangeSpec := { name := "topWound", fn := fun _ => fun
  | [d1, d2] => { results := [.lit (.bool true)], args := [d1, d2] }
  | _ => none }
def topWoundRow : OpenClaim := { program := "ytlghgbdelmiakaadoor", sum := "899420690ea241d2e3b105dd145a8cd0a39191aedd292c986266aa0274ee4340", func := "vitola/vitolatop.TopWound", spec := "topWound", inPlace := ["internal/abi.NoEscape", "internal/bytealg.MakeNoZero"], unfollowed := true, recurses := true, named := ["vitola/heap.past"], apart := false, laid := [("vitola/heap.past", laid_vitola_heap_past)] }
def TopWoundSaid : Prop := topWoundRow.holds Tryd.pinned (OpenSpec.ofChange topWoundSpec)

/-- ITS FALSE NEIGHBOUR: 'it returns false'. Refute it at one input. -/
def topWoundWrong : ChangeSpec := { name := "topWound", fn := fun _ => fun
  | [d1, d2] => { results := [.lit (.bool false)], args := [d1, d2] }
  | _ => none }
def TopWoundWrongFalsely : Prop := topWoundRow.holds Tryd.pinned (OpenSpec.ofChange topWoundWrong)

/-- 'vitolatop.TopSpaced': WHATEVER THE INPUT: true; the input reads as it did. -/
def topSpacedSpec : ChangeSpec := { name := "topSpaced", fn := fun _ => fun
  | [d1, d2] => { results := [.lit (.bool true)], args := [d1, d2] }
  | _ => none }
def topSpacedRow : OpenClaim := { program := "ytlghgbdelmiakaadoor", sum := "899420690ea241d2e3b105dd145a8cd0a39191aedd292c986266aa0274ee4340", func := "vitola/vitolatop.TopSpaced", spec := "topSpaced", unfollowed := true, recurses := true, named := ["vitola/heap.past"], apart := false, laid := [("vitola/heap.past", laid_vitola_heap_past)] }
def TopSpacedSaid : Prop := topSpacedRow.holds Tryd.pinned (OpenSpec.ofChange topSpacedSpec)

/-- ITS FALSE NEIGHBOUR: 'it returns false'. Refute it at one input. -/
def topSpacedWrong : ChangeSpec := { name := "topSpaced", fn := fun _ => fun
  | [d1, d2] => { results := [.lit (.bool false)], args := [d1, d2] }
  | _ => none }
def TopSpacedWrongFalsely : Prop := topSpacedRow.holds Tryd.pinned (OpenSpec.ofChange topSpacedWrong)

/- THE SECOND FORM. 'bulk': how many values and letters a reading holds, each counted each time it is reached (what is shared counts as often as it is met; a slice's spare places count too). A statement '..UptoSaid' is the law's where the arguments, and the package variables that the reading takes, are together of bulk at most 1048576: NARROWER than '..Said'. Prove '..Said' where nothing that the law and all that it calls make is longer than what came in: it says more and counts as full. Else prove '..UptoSaid'. A law counts once. -/
mutual
def uptoBulk {H : Type} : DataW H → Nat
  | .lit (.string bytes) => bytes.length + 1
  | .lit _ => 1
  | .nil => 1
  | .ptr d => uptoBulk d + 1
  | .slice elems spare => uptoBulkAll elems + uptoBulkAll spare + 1
  | .agg parts => uptoBulkAll parts + 1
  | .iface _ d => uptoBulk d + 1
  | .map entries => uptoBulkEntries entries + 1
  | .held _ => 1
def uptoBulkAll {H : Type} : List (DataW H) → Nat
  | [] => 0
  | d :: r => uptoBulk d + uptoBulkAll r
def uptoBulkEntries {H : Type} : List (Lit × DataW H) → Nat
  | [] => 0
  | x :: r => uptoBulkEntry x + uptoBulkEntries r
def uptoBulkEntry {H : Type} : Lit × DataW H → Nat
  | (.string bytes, d) => bytes.length + uptoBulk d + 1
  | (_, d) => uptoBulk d + 1
 end
def uptoSmall : (H : Type) → List (DataW H) → Bool := fun _ ds => decide (uptoBulkAll ds ≤ 1048576)
def OpenSpec.upto (s : _root_.Go.ChangeSpec) : _root_.Go.OpenSpec := { _root_.Go.OpenSpec.ofChange s with cond := some uptoSmall }

/-- 'vitolatop.TopWound', WHERE WHAT IT READS IS OF BULK AT MOST 1048576: true; the input reads as it did. -/
def topWoundUptoRow : OpenClaim := { program := "ytlghgbdelmiakaadoor", sum := "899420690ea241d2e3b105dd145a8cd0a39191aedd292c986266aa0274ee4340", func := "vitola/vitolatop.TopWound", spec := "topWound", inPlace := ["internal/abi.NoEscape", "internal/bytealg.MakeNoZero"], unfollowed := true, recurses := true, named := ["vitola/heap.past"], apart := false, laid := [("vitola/heap.past", laid_vitola_heap_past)], narrowed := true }
def TopWoundUptoSaid : Prop := topWoundUptoRow.holds Tryd.pinned (OpenSpec.upto topWoundSpec)

/-- 'vitolatop.TopSpaced', WHERE WHAT IT READS IS OF BULK AT MOST 1048576: true; the input reads as it did. -/
def topSpacedUptoRow : OpenClaim := { program := "ytlghgbdelmiakaadoor", sum := "899420690ea241d2e3b105dd145a8cd0a39191aedd292c986266aa0274ee4340", func := "vitola/vitolatop.TopSpaced", spec := "topSpaced", unfollowed := true, recurses := true, named := ["vitola/heap.past"], apart := false, laid := [("vitola/heap.past", laid_vitola_heap_past)], narrowed := true }
def TopSpacedUptoSaid : Prop := topSpacedUptoRow.holds Tryd.pinned (OpenSpec.upto topSpacedSpec)

end Rows
end Go.Proofs.YtlghgbdelmiakaaDoor
