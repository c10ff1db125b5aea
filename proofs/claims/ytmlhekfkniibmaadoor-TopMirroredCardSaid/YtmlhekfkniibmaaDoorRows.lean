/-
  NARROWER THAN 'FOR EVERY INPUT', by the rows' own cells (each row's printed sentence says how): TopMirrored: laid · TopHome: laid.
  DERIVED. THE GIVEN ROWS OF THIS SEAT. 2 by the template 'for every input the law returns true; each argument reads behind the call as it read before'; 0 by the template 'total and deterministic' (their statements: YtmlhekfkniibmaaDoorTotals.lean).
  GIVEN WITH THE SEED: the statements are not yours to turn. If you find one false, say at which input.
  Laid BY PROGRAM, IN A SANDBOX (cutbox-rows.mjs): the forced cells as the released guide's own fill.sh prints them over the translation edf6c41af8945018… (all of the seat's roots in one cut). By AI agents, Wed Nov 11 2026. No macro, syntax, notation, axiom, sorry.
-/
import Derived.Test.YtmlhekfkniibmaaDoorChecked
import GoSem.Claim
import GoSem.ClaimJoined
import GoSem.ClaimMapViews
import Derived.JoinedTies
import Derived.KernelRfl
namespace Go.Proofs.YtmlhekfkniibmaaDoor
/- THE CELL 'sum', in the pinned program and in every row, IS THE sha256 OF THE DUMP (.gsa) THAT YtmlhekfkniibmaaDoorProg.lean LOADS. Nothing in Lean hashes anything: it is a label: what it is worth is what the hold of that sum in a sandbox is worth. -/
noncomputable def Tryd.pinned : Pinned := { name := "ytmlhekfkniibmaadoor", sum := "edf6c41af8945018d7166527b75a410291c112a6aba2dedecc9849e8ba156b5c", checked := Tryd.checked }
namespace Rows
def none {H : Type} : Left H := { results := [], args := [] }

/- WHAT THE LISTED PACKAGE-LEVEL VARIABLES READ AS WHEN THE CALL BEGINS. Each datum BY PROGRAM (the guide's laid-datum.mjs) off the statement by which the dump's own 'gosem.cut.vars' lays the variable. In a bare row this is a premise. The card (YtmlhekfkniibmaaDoorCards.lean) ties it to the program's text. -/
def laid_vitola_heap_past {H : Type} : DataW H := .agg [.lit (.int .i64 24), .lit (.int .i64 24)]

/-- 'vitolatop.TopMirrored': WHATEVER THE INPUT: true; the input reads as it did. -/
def topMirroredSpec : ChangeSpec := { name := "topMirrored", fn := fun _ => fun
  | [d1, d2] => { results := [.lit (.bool true)], args := [d1, d2] }
  | _ => none }
def topMirroredRow : OpenClaim := { program := "ytmlhekfkniibmaadoor", sum := "edf6c41af8945018d7166527b75a410291c112a6aba2dedecc9849e8ba156b5c", func := "vitola/vitolatop.TopMirrored", spec := "topMirrored", unfollowed := true, recurses := true, named := ["vitola/heap.past"], apart := false, laid := [("vitola/heap.past", laid_vitola_heap_past)] }
def TopMirroredSaid : Prop := topMirroredRow.holds Tryd.pinned (OpenSpec.ofChange topMirroredSpec)

/-- ITS FALSE NEIGHBOUR: 'it returns false'. Refute it at one input. -/
def topMirroredWrong : ChangeSpec := { name := "topMirrored", fn := fun _ => fun
  | [d1, d2] => { results := [.lit (.bool false)], args := [d1, d2] }
  | _ => none }
def TopMirroredWrongFalsely : Prop := topMirroredRow.holds Tryd.pinned (OpenSpec.ofChange topMirroredWrong)

/-- 'vitolatop.TopHome': WHATEVER THE INPUT: true; the input reads as it did. -/
def topHomeSpec : ChangeSpec := { name := "topHome", fn := fun _ => fun
  | [d1, d2, d3] => { results := [.lit (.bool true)], args := [d1, d2, d3] }
  | _ => none }
def topHomeRow : OpenClaim := { program := "ytmlhekfkniibmaadoor", sum := "edf6c41af8945018d7166527b75a410291c112a6aba2dedecc9849e8ba156b5c", func := "vitola/vitolatop.TopHome", spec := "topHome", unfollowed := true, recurses := true, named := ["vitola/heap.past"], apart := false, laid := [("vitola/heap.past", laid_vitola_heap_past)] }
def TopHomeSaid : Prop := topHomeRow.holds Tryd.pinned (OpenSpec.ofChange topHomeSpec)

/-- ITS FALSE NEIGHBOUR: 'it returns false'. Refute it at one input. -/
def topHomeWrong : ChangeSpec := { name := "topHome", fn := fun _ => fun
  | [d1, d2, d3] => { results := [.lit (.bool false)], args := [d1, d2, d3] }
  | _ => none }
def TopHomeWrongFalsely : Prop := topHomeRow.holds Tryd.pinned (OpenSpec.ofChange topHomeWrong)

/- THE SECOND FORM. 'bulk': how many values and letters a reading holds, each counted each time it is reached (what is shared counts as often as it is met; a slice's spare places count too). A statement '..UptoSaid' is the law's where the arguments, and the package variables that the reading takes, are together of bulk at most 1048576: NARROWER than '..Said'. Prove '..Said' where nothing that the law and all that it calls make is longer than what came in: it says more and counts as full. Else prove '..UptoSaid'. A law counts once. -/
mutual
def uptoBulk {H : Type} : DataW H → Nat
  | .lit (.string bytes) => bytes.length + 1
  | .lit _ => 1
  | .nil => 1
  | .ptr d => uptoBulk d + 1
  | .slice elems spare => uptoBulkAll elems + uptoBulkAll spare + 1
  | .agg parts => uptoBulkAll parts + 1
  | .iface _ d => uptoBulk d + 1
  | .map entries => uptoBulkEntries entries + 1
  | .held _ => 1
def uptoBulkAll {H : Type} : List (DataW H) → Nat
  | [] => 0
  | d :: r => uptoBulk d + uptoBulkAll r
def uptoBulkEntries {H : Type} : List (Lit × DataW H) → Nat
  | [] => 0
  | x :: r => uptoBulkEntry x + uptoBulkEntries r
def uptoBulkEntry {H : Type} : Lit × DataW H → Nat
  | (.string bytes, d) => bytes.length + uptoBulk d + 1
  | (_, d) => uptoBulk d + 1
 end
def uptoSmall : (H : Type) → List (DataW H) → Bool := fun _ ds => decide (uptoBulkAll ds ≤ 1048576)
def OpenSpec.upto (s : _root_.Go.ChangeSpec) : _root_.Go.OpenSpec := { _root_.Go.OpenSpec.ofChange s with cond := some uptoSmall }

/-- 'vitolatop.TopMirrored', WHERE WHAT IT READS IS OF BULK AT MOST 1048576: true; the input reads as it did. -/
def topMirroredUptoRow : OpenClaim := { program := "ytmlhekfkniibmaadoor", sum := "edf6c41af8945018d7166527b75a410291c112a6aba2dedecc9849e8ba156b5c", func := "vitola/vitolatop.TopMirrored", spec := "topMirrored", unfollowed := true, recurses := true, named := ["vitola/heap.past"], apart := false, laid := [("vitola/heap.past", laid_vitola_heap_past)], narrowed := true }
def TopMirroredUptoSaid : Prop := topMirroredUptoRow.holds Tryd.pinned (OpenSpec.upto topMirroredSpec)

/-- 'vitolatop.TopHome', WHERE WHAT IT READS IS OF BULK AT MOST 1048576: true; the input reads as it did. -/
def topHomeUptoRow : OpenClaim := { program := "ytmlhekfkniibmaadoor", sum := "edf6c41af8945018d7166527b75a410291c112a6aba2dedecc9849e8ba156b5c", func := "vitola/vitolatop.TopHome", spec := "topHome", unfollowed := true, recurses := true, named := ["vitola/heap.past"], apart := false, laid := [("vitola/heap.past", laid_vitola_heap_past)], narrowed := true }
def TopHomeUptoSaid : Prop := topHomeUptoRow.holds Tryd.pinned (OpenSpec.upto topHomeSpec)

end Rows
end Go.Proofs.YtmlhekfkniibmaaDoor
