/-
  No cell of these rows narrows 'for every input' (looked for: loops, veiled, ifaces, maps, wideKeys, modest, calm, conditions, laid).
  DERIVED. THE GIVEN ROWS OF THIS SEAT. 12 by the template 'for every input the law returns true; each argument reads behind the call as it read before'; 0 by the template 'total and deterministic' (their statements: YtojblooaiojmcaaTotals.lean).
  GIVEN WITH THE SEED: the statements are not yours to turn. If you find one false, say at which input.
  Laid BY PROGRAM, IN A SANDBOX (cutbox-rows.mjs): the forced cells as the released guide's own fill.sh prints them over the translation 608b25b81b0024f9… (all of the seat's roots in one cut). By AI agents, Wed Nov 11 2026. No macro, syntax, notation, axiom, sorry.
-/
import Derived.Test.YtojblooaiojmcaaChecked
import GoSem.Claim
import GoSem.ClaimJoined
import GoSem.ClaimMapViews
import Derived.JoinedTies
import Derived.KernelRfl
namespace Go.Proofs.Ytojblooaiojmcaa
/- THE CELL 'sum', in the pinned program and in every row, IS THE sha256 OF THE DUMP (.gsa) THAT YtojblooaiojmcaaProg.lean LOADS. Nothing in Lean hashes anything: it is a label: what it is worth is what the hold of that sum in a sandbox is worth. -/
noncomputable def Try.pinned : Pinned := { name := "ytojblooaiojmcaa", sum := "608b25b81b0024f902f2d4fd5383b32d03d4c04cf7cbe7ee2b740cd55add50c3", checked := Try.checked }
namespace Rows
def none {H : Type} : Left H := { results := [], args := [] }

/-- 'vitolalaw01.DockParks': WHATEVER THE INPUT: true; the input reads as it did. -/
def dockParksSpec : ChangeSpec := { name := "dockParks", fn := fun _ => fun
  | [d1, d2, d3] => { results := [.lit (.bool true)], args := [d1, d2, d3] }
  | _ => none }
def dockParksRow : OpenClaim := { program := "ytojblooaiojmcaa", sum := "608b25b81b0024f902f2d4fd5383b32d03d4c04cf7cbe7ee2b740cd55add50c3", func := "vitola/vitolalaw01.DockParks", spec := "dockParks", unfollowed := true, recurses := true, apart := false }
def DockParksSaid : Prop := dockParksRow.holds Try.pinned (OpenSpec.ofChange dockParksSpec)

/-- ITS FALSE NEIGHBOUR: 'it returns false'. Refute it at one input. -/
def dockParksWrong : ChangeSpec := { name := "dockParks", fn := fun _ => fun
  | [d1, d2, d3] => { results := [.lit (.bool false)], args := [d1, d2, d3] }
  | _ => none }
def DockParksWrongFalsely : Prop := dockParksRow.holds Try.pinned (OpenSpec.ofChange dockParksWrong)

/-- 'vitolalaw01.DockProves': WHATEVER THE INPUT: true; the input reads as it did. -/
def dockProvesSpec : ChangeSpec := { name := "dockProves", fn := fun _ => fun
  | [d1, d2, d3] => { results := [.lit (.bool true)], args := [d1, d2, d3] }
  | _ => none }
def dockProvesRow : OpenClaim := { program := "ytojblooaiojmcaa", sum := "608b25b81b0024f902f2d4fd5383b32d03d4c04cf7cbe7ee2b740cd55add50c3", func := "vitola/vitolalaw01.DockProves", spec := "dockProves", unfollowed := true, recurses := true, apart := false }
def DockProvesSaid : Prop := dockProvesRow.holds Try.pinned (OpenSpec.ofChange dockProvesSpec)

/-- ITS FALSE NEIGHBOUR: 'it returns false'. Refute it at one input. -/
def dockProvesWrong : ChangeSpec := { name := "dockProves", fn := fun _ => fun
  | [d1, d2, d3] => { results := [.lit (.bool false)], args := [d1, d2, d3] }
  | _ => none }
def DockProvesWrongFalsely : Prop := dockProvesRow.holds Try.pinned (OpenSpec.ofChange dockProvesWrong)

/-- 'vitolalaw01.DockCounts': WHATEVER THE INPUT: true; the input reads as it did. -/
def dockCountsSpec : ChangeSpec := { name := "dockCounts", fn := fun _ => fun
  | [d1, d2, d3, d4] => { results := [.lit (.bool true)], args := [d1, d2, d3, d4] }
  | _ => none }
def dockCountsRow : OpenClaim := { program := "ytojblooaiojmcaa", sum := "608b25b81b0024f902f2d4fd5383b32d03d4c04cf7cbe7ee2b740cd55add50c3", func := "vitola/vitolalaw01.DockCounts", spec := "dockCounts", unfollowed := true, recurses := true, apart := false }
def DockCountsSaid : Prop := dockCountsRow.holds Try.pinned (OpenSpec.ofChange dockCountsSpec)

/-- ITS FALSE NEIGHBOUR: 'it returns false'. Refute it at one input. -/
def dockCountsWrong : ChangeSpec := { name := "dockCounts", fn := fun _ => fun
  | [d1, d2, d3, d4] => { results := [.lit (.bool false)], args := [d1, d2, d3, d4] }
  | _ => none }
def DockCountsWrongFalsely : Prop := dockCountsRow.holds Try.pinned (OpenSpec.ofChange dockCountsWrong)

/-- 'vitolalaw01.DockTurns': WHATEVER THE INPUT: true; the input reads as it did. -/
def dockTurnsSpec : ChangeSpec := { name := "dockTurns", fn := fun _ => fun
  | [d1, d2] => { results := [.lit (.bool true)], args := [d1, d2] }
  | _ => none }
def dockTurnsRow : OpenClaim := { program := "ytojblooaiojmcaa", sum := "608b25b81b0024f902f2d4fd5383b32d03d4c04cf7cbe7ee2b740cd55add50c3", func := "vitola/vitolalaw01.DockTurns", spec := "dockTurns", unfollowed := true, recurses := true, apart := false }
def DockTurnsSaid : Prop := dockTurnsRow.holds Try.pinned (OpenSpec.ofChange dockTurnsSpec)

/-- ITS FALSE NEIGHBOUR: 'it returns false'. Refute it at one input. -/
def dockTurnsWrong : ChangeSpec := { name := "dockTurns", fn := fun _ => fun
  | [d1, d2] => { results := [.lit (.bool false)], args := [d1, d2] }
  | _ => none }
def DockTurnsWrongFalsely : Prop := dockTurnsRow.holds Try.pinned (OpenSpec.ofChange dockTurnsWrong)

/-- 'vitolalaw01.DockWeiss': WHATEVER THE INPUT: true; the input reads as it did. -/
def dockWeissSpec : ChangeSpec := { name := "dockWeiss", fn := fun _ => fun
  | [d1, d2] => { results := [.lit (.bool true)], args := [d1, d2] }
  | _ => none }
def dockWeissRow : OpenClaim := { program := "ytojblooaiojmcaa", sum := "608b25b81b0024f902f2d4fd5383b32d03d4c04cf7cbe7ee2b740cd55add50c3", func := "vitola/vitolalaw01.DockWeiss", spec := "dockWeiss", unfollowed := true, recurses := true, apart := false }
def DockWeissSaid : Prop := dockWeissRow.holds Try.pinned (OpenSpec.ofChange dockWeissSpec)

/-- ITS FALSE NEIGHBOUR: 'it returns false'. Refute it at one input. -/
def dockWeissWrong : ChangeSpec := { name := "dockWeiss", fn := fun _ => fun
  | [d1, d2] => { results := [.lit (.bool false)], args := [d1, d2] }
  | _ => none }
def DockWeissWrongFalsely : Prop := dockWeissRow.holds Try.pinned (OpenSpec.ofChange dockWeissWrong)

/-- 'vitolalaw01.DockPollak': WHATEVER THE INPUT: true; the input reads as it did. -/
def dockPollakSpec : ChangeSpec := { name := "dockPollak", fn := fun _ => fun
  | [d] => { results := [.lit (.bool true)], args := [d] }
  | _ => none }
def dockPollakRow : OpenClaim := { program := "ytojblooaiojmcaa", sum := "608b25b81b0024f902f2d4fd5383b32d03d4c04cf7cbe7ee2b740cd55add50c3", func := "vitola/vitolalaw01.DockPollak", spec := "dockPollak", unfollowed := true, recurses := true, apart := false }
def DockPollakSaid : Prop := dockPollakRow.holds Try.pinned (OpenSpec.ofChange dockPollakSpec)

/-- ITS FALSE NEIGHBOUR: 'it returns false'. Refute it at one input. -/
def dockPollakWrong : ChangeSpec := { name := "dockPollak", fn := fun _ => fun
  | [d] => { results := [.lit (.bool false)], args := [d] }
  | _ => none }
def DockPollakWrongFalsely : Prop := dockPollakRow.holds Try.pinned (OpenSpec.ofChange dockPollakWrong)

/-- 'vitolalaw01.DockProved': WHATEVER THE INPUT: true; the input reads as it did. -/
def dockProvedSpec : ChangeSpec := { name := "dockProved", fn := fun _ => fun
  | [d] => { results := [.lit (.bool true)], args := [d] }
  | _ => none }
def dockProvedRow : OpenClaim := { program := "ytojblooaiojmcaa", sum := "608b25b81b0024f902f2d4fd5383b32d03d4c04cf7cbe7ee2b740cd55add50c3", func := "vitola/vitolalaw01.DockProved", spec := "dockProved", unfollowed := true, recurses := true, apart := false }
def DockProvedSaid : Prop := dockProvedRow.holds Try.pinned (OpenSpec.ofChange dockProvedSpec)

/-- ITS FALSE NEIGHBOUR: 'it returns false'. Refute it at one input. -/
def dockProvedWrong : ChangeSpec := { name := "dockProved", fn := fun _ => fun
  | [d] => { results := [.lit (.bool false)], args := [d] }
  | _ => none }
def DockProvedWrongFalsely : Prop := dockProvedRow.holds Try.pinned (OpenSpec.ofChange dockProvedWrong)

/-- 'vitolalaw01.DockOrders': WHATEVER THE INPUT: true; the input reads as it did. -/
def dockOrdersSpec : ChangeSpec := { name := "dockOrders", fn := fun _ => fun
  | [d1, d2] => { results := [.lit (.bool true)], args := [d1, d2] }
  | _ => none }
def dockOrdersRow : OpenClaim := { program := "ytojblooaiojmcaa", sum := "608b25b81b0024f902f2d4fd5383b32d03d4c04cf7cbe7ee2b740cd55add50c3", func := "vitola/vitolalaw01.DockOrders", spec := "dockOrders", unfollowed := true, recurses := true, apart := false }
def DockOrdersSaid : Prop := dockOrdersRow.holds Try.pinned (OpenSpec.ofChange dockOrdersSpec)

/-- ITS FALSE NEIGHBOUR: 'it returns false'. Refute it at one input. -/
def dockOrdersWrong : ChangeSpec := { name := "dockOrders", fn := fun _ => fun
  | [d1, d2] => { results := [.lit (.bool false)], args := [d1, d2] }
  | _ => none }
def DockOrdersWrongFalsely : Prop := dockOrdersRow.holds Try.pinned (OpenSpec.ofChange dockOrdersWrong)

/-- 'vitolalaw01.DockWays': WHATEVER THE INPUT: true; the input reads as it did. -/
def dockWaysSpec : ChangeSpec := { name := "dockWays", fn := fun _ => fun
  | [d] => { results := [.lit (.bool true)], args := [d] }
  | _ => none }
def dockWaysRow : OpenClaim := { program := "ytojblooaiojmcaa", sum := "608b25b81b0024f902f2d4fd5383b32d03d4c04cf7cbe7ee2b740cd55add50c3", func := "vitola/vitolalaw01.DockWays", spec := "dockWays", unfollowed := true, recurses := true, apart := false }
def DockWaysSaid : Prop := dockWaysRow.holds Try.pinned (OpenSpec.ofChange dockWaysSpec)

/-- ITS FALSE NEIGHBOUR: 'it returns false'. Refute it at one input. -/
def dockWaysWrong : ChangeSpec := { name := "dockWays", fn := fun _ => fun
  | [d] => { results := [.lit (.bool false)], args := [d] }
  | _ => none }
def DockWaysWrongFalsely : Prop := dockWaysRow.holds Try.pinned (OpenSpec.ofChange dockWaysWrong)

/-- 'vitolalaw01.DockLess': WHATEVER THE INPUT: true; the input reads as it did. -/
def dockLessSpec : ChangeSpec := { name := "dockLess", fn := fun _ => fun
  | [d1, d2, d3] => { results := [.lit (.bool true)], args := [d1, d2, d3] }
  | _ => none }
def dockLessRow : OpenClaim := { program := "ytojblooaiojmcaa", sum := "608b25b81b0024f902f2d4fd5383b32d03d4c04cf7cbe7ee2b740cd55add50c3", func := "vitola/vitolalaw01.DockLess", spec := "dockLess", unfollowed := true, recurses := true, apart := false }
def DockLessSaid : Prop := dockLessRow.holds Try.pinned (OpenSpec.ofChange dockLessSpec)

/-- ITS FALSE NEIGHBOUR: 'it returns false'. Refute it at one input. -/
def dockLessWrong : ChangeSpec := { name := "dockLess", fn := fun _ => fun
  | [d1, d2, d3] => { results := [.lit (.bool false)], args := [d1, d2, d3] }
  | _ => none }
def DockLessWrongFalsely : Prop := dockLessRow.holds Try.pinned (OpenSpec.ofChange dockLessWrong)

/-- 'vitolalaw01.DockNext': WHATEVER THE INPUT: true; the input reads as it did. -/
def dockNextSpec : ChangeSpec := { name := "dockNext", fn := fun _ => fun
  | [d1, d2, d3] => { results := [.lit (.bool true)], args := [d1, d2, d3] }
  | _ => none }
def dockNextRow : OpenClaim := { program := "ytojblooaiojmcaa", sum := "608b25b81b0024f902f2d4fd5383b32d03d4c04cf7cbe7ee2b740cd55add50c3", func := "vitola/vitolalaw01.DockNext", spec := "dockNext", unfollowed := true, recurses := true, apart := false }
def DockNextSaid : Prop := dockNextRow.holds Try.pinned (OpenSpec.ofChange dockNextSpec)

/-- ITS FALSE NEIGHBOUR: 'it returns false'. Refute it at one input. -/
def dockNextWrong : ChangeSpec := { name := "dockNext", fn := fun _ => fun
  | [d1, d2, d3] => { results := [.lit (.bool false)], args := [d1, d2, d3] }
  | _ => none }
def DockNextWrongFalsely : Prop := dockNextRow.holds Try.pinned (OpenSpec.ofChange dockNextWrong)

/-- 'vitolalaw01.DockKnown': WHATEVER THE INPUT: true; the input reads as it did. -/
def dockKnownSpec : ChangeSpec := { name := "dockKnown", fn := fun _ => fun
  | [] => { results := [.lit (.bool true)], args := [] }
  | _ => none }
def dockKnownRow : OpenClaim := { program := "ytojblooaiojmcaa", sum := "608b25b81b0024f902f2d4fd5383b32d03d4c04cf7cbe7ee2b740cd55add50c3", func := "vitola/vitolalaw01.DockKnown", spec := "dockKnown", unfollowed := true, recurses := true, apart := false }
def DockKnownSaid : Prop := dockKnownRow.holds Try.pinned (OpenSpec.ofChange dockKnownSpec)

/-- ITS FALSE NEIGHBOUR: 'it returns false'. Refute it at one input. -/
def dockKnownWrong : ChangeSpec := { name := "dockKnown", fn := fun _ => fun
  | [] => { results := [.lit (.bool false)], args := [] }
  | _ => none }
def DockKnownWrongFalsely : Prop := dockKnownRow.holds Try.pinned (OpenSpec.ofChange dockKnownWrong)

/- THE SECOND FORM. 'bulk': how many values and letters a reading holds, each counted each time it is reached (what is shared counts as often as it is met; a slice's spare places count too). A statement '..UptoSaid' is the law's where the arguments, and the package variables that the reading takes, are together of bulk at most 1048576: NARROWER than '..Said'. Prove '..Said' where nothing that the law and all that it calls make is longer than what came in: it says more and counts as full. Else prove '..UptoSaid'. A law counts once. -/
mutual
def uptoBulk {H : Type} : DataW H → Nat
  | .lit (.string bytes) => bytes.length + 1
  | .lit _ => 1
  | .nil => 1
  | .ptr d => uptoBulk d + 1
  | .slice elems spare => uptoBulkAll elems + uptoBulkAll spare + 1
  | .agg parts => uptoBulkAll parts + 1
  | .iface _ d => uptoBulk d + 1
  | .map entries => uptoBulkEntries entries + 1
  | .held _ => 1
def uptoBulkAll {H : Type} : List (DataW H) → Nat
  | [] => 0
  | d :: r => uptoBulk d + uptoBulkAll r
def uptoBulkEntries {H : Type} : List (Lit × DataW H) → Nat
  | [] => 0
  | x :: r => uptoBulkEntry x + uptoBulkEntries r
def uptoBulkEntry {H : Type} : Lit × DataW H → Nat
  | (.string bytes, d) => bytes.length + uptoBulk d + 1
  | (_, d) => uptoBulk d + 1
 end
def uptoSmall : (H : Type) → List (DataW H) → Bool := fun _ ds => decide (uptoBulkAll ds ≤ 1048576)
def OpenSpec.upto (s : _root_.Go.ChangeSpec) : _root_.Go.OpenSpec := { _root_.Go.OpenSpec.ofChange s with cond := some uptoSmall }

/-- 'vitolalaw01.DockParks', WHERE WHAT IT READS IS OF BULK AT MOST 1048576: true; the input reads as it did. -/
def dockParksUptoRow : OpenClaim := { program := "ytojblooaiojmcaa", sum := "608b25b81b0024f902f2d4fd5383b32d03d4c04cf7cbe7ee2b740cd55add50c3", func := "vitola/vitolalaw01.DockParks", spec := "dockParks", unfollowed := true, recurses := true, apart := false, narrowed := true }
def DockParksUptoSaid : Prop := dockParksUptoRow.holds Try.pinned (OpenSpec.upto dockParksSpec)

/-- 'vitolalaw01.DockProves', WHERE WHAT IT READS IS OF BULK AT MOST 1048576: true; the input reads as it did. -/
def dockProvesUptoRow : OpenClaim := { program := "ytojblooaiojmcaa", sum := "608b25b81b0024f902f2d4fd5383b32d03d4c04cf7cbe7ee2b740cd55add50c3", func := "vitola/vitolalaw01.DockProves", spec := "dockProves", unfollowed := true, recurses := true, apart := false, narrowed := true }
def DockProvesUptoSaid : Prop := dockProvesUptoRow.holds Try.pinned (OpenSpec.upto dockProvesSpec)

/-- 'vitolalaw01.DockCounts', WHERE WHAT IT READS IS OF BULK AT MOST 1048576: true; the input reads as it did. -/
def dockCountsUptoRow : OpenClaim := { program := "ytojblooaiojmcaa", sum := "608b25b81b0024f902f2d4fd5383b32d03d4c04cf7cbe7ee2b740cd55add50c3", func := "vitola/vitolalaw01.DockCounts", spec := "dockCounts", unfollowed := true, recurses := true, apart := false, narrowed := true }
def DockCountsUptoSaid : Prop := dockCountsUptoRow.holds Try.pinned (OpenSpec.upto dockCountsSpec)

/-- 'vitolalaw01.DockTurns', WHERE WHAT IT READS IS OF BULK AT MOST 1048576: true; the input reads as it did. -/
def dockTurnsUptoRow : OpenClaim := { program := "ytojblooaiojmcaa", sum := "608b25b81b0024f902f2d4fd5383b32d03d4c04cf7cbe7ee2b740cd55add50c3", func := "vitola/vitolalaw01.DockTurns", spec := "dockTurns", unfollowed := true, recurses := true, apart := false, narrowed := true }
def DockTurnsUptoSaid : Prop := dockTurnsUptoRow.holds Try.pinned (OpenSpec.upto dockTurnsSpec)

/-- 'vitolalaw01.DockWeiss', WHERE WHAT IT READS IS OF BULK AT MOST 1048576: true; the input reads as it did. -/
def dockWeissUptoRow : OpenClaim := { program := "ytojblooaiojmcaa", sum := "608b25b81b0024f902f2d4fd5383b32d03d4c04cf7cbe7ee2b740cd55add50c3", func := "vitola/vitolalaw01.DockWeiss", spec := "dockWeiss", unfollowed := true, recurses := true, apart := false, narrowed := true }
def DockWeissUptoSaid : Prop := dockWeissUptoRow.holds Try.pinned (OpenSpec.upto dockWeissSpec)

/-- 'vitolalaw01.DockPollak', WHERE WHAT IT READS IS OF BULK AT MOST 1048576: true; the input reads as it did. -/
def dockPollakUptoRow : OpenClaim := { program := "ytojblooaiojmcaa", sum := "608b25b81b0024f902f2d4fd5383b32d03d4c04cf7cbe7ee2b740cd55add50c3", func := "vitola/vitolalaw01.DockPollak", spec := "dockPollak", unfollowed := true, recurses := true, apart := false, narrowed := true }
def DockPollakUptoSaid : Prop := dockPollakUptoRow.holds Try.pinned (OpenSpec.upto dockPollakSpec)

/-- 'vitolalaw01.DockProved', WHERE WHAT IT READS IS OF BULK AT MOST 1048576: true; the input reads as it did. -/
def dockProvedUptoRow : OpenClaim := { program := "ytojblooaiojmcaa", sum := "608b25b81b0024f902f2d4fd5383b32d03d4c04cf7cbe7ee2b740cd55add50c3", func := "vitola/vitolalaw01.DockProved", spec := "dockProved", unfollowed := true, recurses := true, apart := false, narrowed := true }
def DockProvedUptoSaid : Prop := dockProvedUptoRow.holds Try.pinned (OpenSpec.upto dockProvedSpec)

/-- 'vitolalaw01.DockOrders', WHERE WHAT IT READS IS OF BULK AT MOST 1048576: true; the input reads as it did. -/
def dockOrdersUptoRow : OpenClaim := { program := "ytojblooaiojmcaa", sum := "608b25b81b0024f902f2d4fd5383b32d03d4c04cf7cbe7ee2b740cd55add50c3", func := "vitola/vitolalaw01.DockOrders", spec := "dockOrders", unfollowed := true, recurses := true, apart := false, narrowed := true }
def DockOrdersUptoSaid : Prop := dockOrdersUptoRow.holds Try.pinned (OpenSpec.upto dockOrdersSpec)

/-- 'vitolalaw01.DockWays', WHERE WHAT IT READS IS OF BULK AT MOST 1048576: true; the input reads as it did. -/
def dockWaysUptoRow : OpenClaim := { program := "ytojblooaiojmcaa", sum := "608b25b81b0024f902f2d4fd5383b32d03d4c04cf7cbe7ee2b740cd55add50c3", func := "vitola/vitolalaw01.DockWays", spec := "dockWays", unfollowed := true, recurses := true, apart := false, narrowed := true }
def DockWaysUptoSaid : Prop := dockWaysUptoRow.holds Try.pinned (OpenSpec.upto dockWaysSpec)

/-- 'vitolalaw01.DockLess', WHERE WHAT IT READS IS OF BULK AT MOST 1048576: true; the input reads as it did. -/
def dockLessUptoRow : OpenClaim := { program := "ytojblooaiojmcaa", sum := "608b25b81b0024f902f2d4fd5383b32d03d4c04cf7cbe7ee2b740cd55add50c3", func := "vitola/vitolalaw01.DockLess", spec := "dockLess", unfollowed := true, recurses := true, apart := false, narrowed := true }
def DockLessUptoSaid : Prop := dockLessUptoRow.holds Try.pinned (OpenSpec.upto dockLessSpec)

/-- 'vitolalaw01.DockNext', WHERE WHAT IT READS IS OF BULK AT MOST 1048576: true; the input reads as it did. -/
def dockNextUptoRow : OpenClaim := { program := "ytojblooaiojmcaa", sum := "608b25b81b0024f902f2d4fd5383b32d03d4c04cf7cbe7ee2b740cd55add50c3", func := "vitola/vitolalaw01.DockNext", spec := "dockNext", unfollowed := true, recurses := true, apart := false, narrowed := true }
def DockNextUptoSaid : Prop := dockNextUptoRow.holds Try.pinned (OpenSpec.upto dockNextSpec)

/-- 'vitolalaw01.DockKnown', WHERE WHAT IT READS IS OF BULK AT MOST 1048576: true; the input reads as it did. -/
def dockKnownUptoRow : OpenClaim := { program := "ytojblooaiojmcaa", sum := "608b25b81b0024f902f2d4fd5383b32d03d4c04cf7cbe7ee2b740cd55add50c3", func := "vitola/vitolalaw01.DockKnown", spec := "dockKnown", unfollowed := true, recurses := true, apart := false, narrowed := true }
def DockKnownUptoSaid : Prop := dockKnownUptoRow.holds Try.pinned (OpenSpec.upto dockKnownSpec)

end Rows
end Go.Proofs.Ytojblooaiojmcaa
