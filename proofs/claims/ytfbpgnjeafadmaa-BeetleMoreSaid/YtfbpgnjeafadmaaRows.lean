/-
  No cell of these rows narrows 'for every input' (looked for: loops, veiled, ifaces, maps, wideKeys, modest, calm, conditions, laid).
  DERIVED. THE GIVEN ROWS OF THIS SEAT. 13 by the template 'for every input the law returns true; each argument reads behind the call as it read before'; 0 by the template 'total and deterministic' (their statements: YtfbpgnjeafadmaaTotals.lean).
  GIVEN WITH THE SEED: the statements are not yours to turn. If you find one false, say at which input.
  Laid BY PROGRAM, IN A SANDBOX (cutbox-rows.mjs): the forced cells as the released guide's own fill.sh prints them over the translation 5d6c1f05ac3d4a17… (all of the seat's roots in one cut). By AI agents, Wed Nov 11 2026. No macro, syntax, notation, axiom, sorry.
-/
import Derived.Test.YtfbpgnjeafadmaaChecked
import GoSem.Claim
import GoSem.ClaimJoined
import GoSem.ClaimMapViews
import Derived.JoinedTies
import Derived.KernelRfl
namespace Go.Proofs.Ytfbpgnjeafadmaa
/- THE CELL 'sum', in the pinned program and in every row, IS THE sha256 OF THE DUMP (.gsa) THAT YtfbpgnjeafadmaaProg.lean LOADS. Nothing in Lean hashes anything: it is a label: what it is worth is what the hold of that sum in a sandbox is worth. -/
noncomputable def Try.pinned : Pinned := { name := "ytfbpgnjeafadmaa", sum := "5d6c1f05ac3d4a17f4edab5378ef0e3c33fa500565c28d4812f42747fb07ef0b", checked := Try.checked }
namespace Rows
def none {H : Type} : Left H := { results := [], args := [] }

/-- 'vitolalaw09.BeetleSpreads': WHATEVER THE INPUT: true; the input reads as it did. -/
def beetleSpreadsSpec : ChangeSpec := { name := "beetleSpreads", fn := fun _ => fun
  | [d] => { results := [.lit (.bool true)], args := [d] }
  | _ => none }
def beetleSpreadsRow : OpenClaim := { program := "ytfbpgnjeafadmaa", sum := "5d6c1f05ac3d4a17f4edab5378ef0e3c33fa500565c28d4812f42747fb07ef0b", func := "vitola/vitolalaw09.BeetleSpreads", spec := "beetleSpreads", unfollowed := true, recurses := true, apart := false }
def BeetleSpreadsSaid : Prop := beetleSpreadsRow.holds Try.pinned (OpenSpec.ofChange beetleSpreadsSpec)

/-- ITS FALSE NEIGHBOUR: 'it returns false'. Refute it at one input. -/
def beetleSpreadsWrong : ChangeSpec := { name := "beetleSpreads", fn := fun _ => fun
  | [d] => { results := [.lit (.bool false)], args := [d] }
  | _ => none }
def BeetleSpreadsWrongFalsely : Prop := beetleSpreadsRow.holds Try.pinned (OpenSpec.ofChange beetleSpreadsWrong)

/-- 'vitolalaw09.BeetleProves': WHATEVER THE INPUT: true; the input reads as it did. -/
def beetleProvesSpec : ChangeSpec := { name := "beetleProves", fn := fun _ => fun
  | [d1, d2] => { results := [.lit (.bool true)], args := [d1, d2] }
  | _ => none }
def beetleProvesRow : OpenClaim := { program := "ytfbpgnjeafadmaa", sum := "5d6c1f05ac3d4a17f4edab5378ef0e3c33fa500565c28d4812f42747fb07ef0b", func := "vitola/vitolalaw09.BeetleProves", spec := "beetleProves", unfollowed := true, recurses := true, apart := false }
def BeetleProvesSaid : Prop := beetleProvesRow.holds Try.pinned (OpenSpec.ofChange beetleProvesSpec)

/-- ITS FALSE NEIGHBOUR: 'it returns false'. Refute it at one input. -/
def beetleProvesWrong : ChangeSpec := { name := "beetleProves", fn := fun _ => fun
  | [d1, d2] => { results := [.lit (.bool false)], args := [d1, d2] }
  | _ => none }
def BeetleProvesWrongFalsely : Prop := beetleProvesRow.holds Try.pinned (OpenSpec.ofChange beetleProvesWrong)

/-- 'vitolalaw09.BeetlePlants': WHATEVER THE INPUT: true; the input reads as it did. -/
def beetlePlantsSpec : ChangeSpec := { name := "beetlePlants", fn := fun _ => fun
  | [d1, d2] => { results := [.lit (.bool true)], args := [d1, d2] }
  | _ => none }
def beetlePlantsRow : OpenClaim := { program := "ytfbpgnjeafadmaa", sum := "5d6c1f05ac3d4a17f4edab5378ef0e3c33fa500565c28d4812f42747fb07ef0b", func := "vitola/vitolalaw09.BeetlePlants", spec := "beetlePlants", unfollowed := true, recurses := true, apart := false }
def BeetlePlantsSaid : Prop := beetlePlantsRow.holds Try.pinned (OpenSpec.ofChange beetlePlantsSpec)

/-- ITS FALSE NEIGHBOUR: 'it returns false'. Refute it at one input. -/
def beetlePlantsWrong : ChangeSpec := { name := "beetlePlants", fn := fun _ => fun
  | [d1, d2] => { results := [.lit (.bool false)], args := [d1, d2] }
  | _ => none }
def BeetlePlantsWrongFalsely : Prop := beetlePlantsRow.holds Try.pinned (OpenSpec.ofChange beetlePlantsWrong)

/-- 'vitolalaw09.BeetleKeeps': WHATEVER THE INPUT: true; the input reads as it did. -/
def beetleKeepsSpec : ChangeSpec := { name := "beetleKeeps", fn := fun _ => fun
  | [d1, d2] => { results := [.lit (.bool true)], args := [d1, d2] }
  | _ => none }
def beetleKeepsRow : OpenClaim := { program := "ytfbpgnjeafadmaa", sum := "5d6c1f05ac3d4a17f4edab5378ef0e3c33fa500565c28d4812f42747fb07ef0b", func := "vitola/vitolalaw09.BeetleKeeps", spec := "beetleKeeps", unfollowed := true, recurses := true, apart := false }
def BeetleKeepsSaid : Prop := beetleKeepsRow.holds Try.pinned (OpenSpec.ofChange beetleKeepsSpec)

/-- ITS FALSE NEIGHBOUR: 'it returns false'. Refute it at one input. -/
def beetleKeepsWrong : ChangeSpec := { name := "beetleKeeps", fn := fun _ => fun
  | [d1, d2] => { results := [.lit (.bool false)], args := [d1, d2] }
  | _ => none }
def BeetleKeepsWrongFalsely : Prop := beetleKeepsRow.holds Try.pinned (OpenSpec.ofChange beetleKeepsWrong)

/-- 'vitolalaw09.BeetleOutline': WHATEVER THE INPUT: true; the input reads as it did. -/
def beetleOutlineSpec : ChangeSpec := { name := "beetleOutline", fn := fun _ => fun
  | [d] => { results := [.lit (.bool true)], args := [d] }
  | _ => none }
def beetleOutlineRow : OpenClaim := { program := "ytfbpgnjeafadmaa", sum := "5d6c1f05ac3d4a17f4edab5378ef0e3c33fa500565c28d4812f42747fb07ef0b", func := "vitola/vitolalaw09.BeetleOutline", spec := "beetleOutline", unfollowed := true, recurses := true, apart := false }
def BeetleOutlineSaid : Prop := beetleOutlineRow.holds Try.pinned (OpenSpec.ofChange beetleOutlineSpec)

/-- ITS FALSE NEIGHBOUR: 'it returns false'. Refute it at one input. -/
def beetleOutlineWrong : ChangeSpec := { name := "beetleOutline", fn := fun _ => fun
  | [d] => { results := [.lit (.bool false)], args := [d] }
  | _ => none }
def BeetleOutlineWrongFalsely : Prop := beetleOutlineRow.holds Try.pinned (OpenSpec.ofChange beetleOutlineWrong)

/-- 'vitolalaw09.BeetleReached': WHATEVER THE INPUT: true; the input reads as it did. -/
def beetleReachedSpec : ChangeSpec := { name := "beetleReached", fn := fun _ => fun
  | [d] => { results := [.lit (.bool true)], args := [d] }
  | _ => none }
def beetleReachedRow : OpenClaim := { program := "ytfbpgnjeafadmaa", sum := "5d6c1f05ac3d4a17f4edab5378ef0e3c33fa500565c28d4812f42747fb07ef0b", func := "vitola/vitolalaw09.BeetleReached", spec := "beetleReached", unfollowed := true, recurses := true, apart := false }
def BeetleReachedSaid : Prop := beetleReachedRow.holds Try.pinned (OpenSpec.ofChange beetleReachedSpec)

/-- ITS FALSE NEIGHBOUR: 'it returns false'. Refute it at one input. -/
def beetleReachedWrong : ChangeSpec := { name := "beetleReached", fn := fun _ => fun
  | [d] => { results := [.lit (.bool false)], args := [d] }
  | _ => none }
def BeetleReachedWrongFalsely : Prop := beetleReachedRow.holds Try.pinned (OpenSpec.ofChange beetleReachedWrong)

/-- 'vitolalaw09.BeetleSafe': WHATEVER THE INPUT: true; the input reads as it did. -/
def beetleSafeSpec : ChangeSpec := { name := "beetleSafe", fn := fun _ => fun
  | [d] => { results := [.lit (.bool true)], args := [d] }
  | _ => none }
def beetleSafeRow : OpenClaim := { program := "ytfbpgnjeafadmaa", sum := "5d6c1f05ac3d4a17f4edab5378ef0e3c33fa500565c28d4812f42747fb07ef0b", func := "vitola/vitolalaw09.BeetleSafe", spec := "beetleSafe", unfollowed := true, recurses := true, apart := false }
def BeetleSafeSaid : Prop := beetleSafeRow.holds Try.pinned (OpenSpec.ofChange beetleSafeSpec)

/-- ITS FALSE NEIGHBOUR: 'it returns false'. Refute it at one input. -/
def beetleSafeWrong : ChangeSpec := { name := "beetleSafe", fn := fun _ => fun
  | [d] => { results := [.lit (.bool false)], args := [d] }
  | _ => none }
def BeetleSafeWrongFalsely : Prop := beetleSafeRow.holds Try.pinned (OpenSpec.ofChange beetleSafeWrong)

/-- 'vitolalaw09.BeetleBlocks': WHATEVER THE INPUT: true; the input reads as it did. -/
def beetleBlocksSpec : ChangeSpec := { name := "beetleBlocks", fn := fun _ => fun
  | [d] => { results := [.lit (.bool true)], args := [d] }
  | _ => none }
def beetleBlocksRow : OpenClaim := { program := "ytfbpgnjeafadmaa", sum := "5d6c1f05ac3d4a17f4edab5378ef0e3c33fa500565c28d4812f42747fb07ef0b", func := "vitola/vitolalaw09.BeetleBlocks", spec := "beetleBlocks", unfollowed := true, recurses := true, apart := false }
def BeetleBlocksSaid : Prop := beetleBlocksRow.holds Try.pinned (OpenSpec.ofChange beetleBlocksSpec)

/-- ITS FALSE NEIGHBOUR: 'it returns false'. Refute it at one input. -/
def beetleBlocksWrong : ChangeSpec := { name := "beetleBlocks", fn := fun _ => fun
  | [d] => { results := [.lit (.bool false)], args := [d] }
  | _ => none }
def BeetleBlocksWrongFalsely : Prop := beetleBlocksRow.holds Try.pinned (OpenSpec.ofChange beetleBlocksWrong)

/-- 'vitolalaw09.BeetleKept': WHATEVER THE INPUT: true; the input reads as it did. -/
def beetleKeptSpec : ChangeSpec := { name := "beetleKept", fn := fun _ => fun
  | [d1, d2] => { results := [.lit (.bool true)], args := [d1, d2] }
  | _ => none }
def beetleKeptRow : OpenClaim := { program := "ytfbpgnjeafadmaa", sum := "5d6c1f05ac3d4a17f4edab5378ef0e3c33fa500565c28d4812f42747fb07ef0b", func := "vitola/vitolalaw09.BeetleKept", spec := "beetleKept", unfollowed := true, recurses := true, apart := false }
def BeetleKeptSaid : Prop := beetleKeptRow.holds Try.pinned (OpenSpec.ofChange beetleKeptSpec)

/-- ITS FALSE NEIGHBOUR: 'it returns false'. Refute it at one input. -/
def beetleKeptWrong : ChangeSpec := { name := "beetleKept", fn := fun _ => fun
  | [d1, d2] => { results := [.lit (.bool false)], args := [d1, d2] }
  | _ => none }
def BeetleKeptWrongFalsely : Prop := beetleKeptRow.holds Try.pinned (OpenSpec.ofChange beetleKeptWrong)

/-- 'vitolalaw09.BeetleMore': WHATEVER THE INPUT: true; the input reads as it did. -/
def beetleMoreSpec : ChangeSpec := { name := "beetleMore", fn := fun _ => fun
  | [d1, d2, d3] => { results := [.lit (.bool true)], args := [d1, d2, d3] }
  | _ => none }
def beetleMoreRow : OpenClaim := { program := "ytfbpgnjeafadmaa", sum := "5d6c1f05ac3d4a17f4edab5378ef0e3c33fa500565c28d4812f42747fb07ef0b", func := "vitola/vitolalaw09.BeetleMore", spec := "beetleMore", unfollowed := true, recurses := true, apart := false }
def BeetleMoreSaid : Prop := beetleMoreRow.holds Try.pinned (OpenSpec.ofChange beetleMoreSpec)

/-- ITS FALSE NEIGHBOUR: 'it returns false'. Refute it at one input. -/
def beetleMoreWrong : ChangeSpec := { name := "beetleMore", fn := fun _ => fun
  | [d1, d2, d3] => { results := [.lit (.bool false)], args := [d1, d2, d3] }
  | _ => none }
def BeetleMoreWrongFalsely : Prop := beetleMoreRow.holds Try.pinned (OpenSpec.ofChange beetleMoreWrong)

/-- 'vitolalaw09.BeetleTurned': WHATEVER THE INPUT: true; the input reads as it did. -/
def beetleTurnedSpec : ChangeSpec := { name := "beetleTurned", fn := fun _ => fun
  | [d] => { results := [.lit (.bool true)], args := [d] }
  | _ => none }
def beetleTurnedRow : OpenClaim := { program := "ytfbpgnjeafadmaa", sum := "5d6c1f05ac3d4a17f4edab5378ef0e3c33fa500565c28d4812f42747fb07ef0b", func := "vitola/vitolalaw09.BeetleTurned", spec := "beetleTurned", unfollowed := true, recurses := true, apart := false }
def BeetleTurnedSaid : Prop := beetleTurnedRow.holds Try.pinned (OpenSpec.ofChange beetleTurnedSpec)

/-- ITS FALSE NEIGHBOUR: 'it returns false'. Refute it at one input. -/
def beetleTurnedWrong : ChangeSpec := { name := "beetleTurned", fn := fun _ => fun
  | [d] => { results := [.lit (.bool false)], args := [d] }
  | _ => none }
def BeetleTurnedWrongFalsely : Prop := beetleTurnedRow.holds Try.pinned (OpenSpec.ofChange beetleTurnedWrong)

/-- 'vitolalaw09.BeetleIdle': WHATEVER THE INPUT: true; the input reads as it did. -/
def beetleIdleSpec : ChangeSpec := { name := "beetleIdle", fn := fun _ => fun
  | [d] => { results := [.lit (.bool true)], args := [d] }
  | _ => none }
def beetleIdleRow : OpenClaim := { program := "ytfbpgnjeafadmaa", sum := "5d6c1f05ac3d4a17f4edab5378ef0e3c33fa500565c28d4812f42747fb07ef0b", func := "vitola/vitolalaw09.BeetleIdle", spec := "beetleIdle", unfollowed := true, recurses := true, apart := false }
def BeetleIdleSaid : Prop := beetleIdleRow.holds Try.pinned (OpenSpec.ofChange beetleIdleSpec)

/-- ITS FALSE NEIGHBOUR: 'it returns false'. Refute it at one input. -/
def beetleIdleWrong : ChangeSpec := { name := "beetleIdle", fn := fun _ => fun
  | [d] => { results := [.lit (.bool false)], args := [d] }
  | _ => none }
def BeetleIdleWrongFalsely : Prop := beetleIdleRow.holds Try.pinned (OpenSpec.ofChange beetleIdleWrong)

/-- 'vitolalaw09.BeetleKnown': WHATEVER THE INPUT: true; the input reads as it did. -/
def beetleKnownSpec : ChangeSpec := { name := "beetleKnown", fn := fun _ => fun
  | [] => { results := [.lit (.bool true)], args := [] }
  | _ => none }
def beetleKnownRow : OpenClaim := { program := "ytfbpgnjeafadmaa", sum := "5d6c1f05ac3d4a17f4edab5378ef0e3c33fa500565c28d4812f42747fb07ef0b", func := "vitola/vitolalaw09.BeetleKnown", spec := "beetleKnown", unfollowed := true, recurses := true, apart := false }
def BeetleKnownSaid : Prop := beetleKnownRow.holds Try.pinned (OpenSpec.ofChange beetleKnownSpec)

/-- ITS FALSE NEIGHBOUR: 'it returns false'. Refute it at one input. -/
def beetleKnownWrong : ChangeSpec := { name := "beetleKnown", fn := fun _ => fun
  | [] => { results := [.lit (.bool false)], args := [] }
  | _ => none }
def BeetleKnownWrongFalsely : Prop := beetleKnownRow.holds Try.pinned (OpenSpec.ofChange beetleKnownWrong)

/- THE SECOND FORM. 'bulk': how many values and letters a reading holds, each counted each time it is reached (what is shared counts as often as it is met; a slice's spare places count too). A statement '..UptoSaid' is the law's where the arguments, and the package variables that the reading takes, are together of bulk at most 1048576: NARROWER than '..Said'. Prove '..Said' where nothing that the law and all that it calls make is longer than what came in: it says more and counts as full. Else prove '..UptoSaid'. A law counts once. -/
mutual
def uptoBulk {H : Type} : DataW H → Nat
  | .lit (.string bytes) => bytes.length + 1
  | .lit _ => 1
  | .nil => 1
  | .ptr d => uptoBulk d + 1
  | .slice elems spare => uptoBulkAll elems + uptoBulkAll spare + 1
  | .agg parts => uptoBulkAll parts + 1
  | .iface _ d => uptoBulk d + 1
  | .map entries => uptoBulkEntries entries + 1
  | .held _ => 1
def uptoBulkAll {H : Type} : List (DataW H) → Nat
  | [] => 0
  | d :: r => uptoBulk d + uptoBulkAll r
def uptoBulkEntries {H : Type} : List (Lit × DataW H) → Nat
  | [] => 0
  | x :: r => uptoBulkEntry x + uptoBulkEntries r
def uptoBulkEntry {H : Type} : Lit × DataW H → Nat
  | (.string bytes, d) => bytes.length + uptoBulk d + 1
  | (_, d) => uptoBulk d + 1
 end
def uptoSmall : (H : Type) → List (DataW H) → Bool := fun _ ds => decide (uptoBulkAll ds ≤ 1048576)
def OpenSpec.upto (s : _root_.Go.ChangeSpec) : _root_.Go.OpenSpec := { _root_.Go.OpenSpec.ofChange s with cond := some uptoSmall }

/-- 'vitolalaw09.BeetleSpreads', WHERE WHAT IT READS IS OF BULK AT MOST 1048576: true; the input reads as it did. -/
def beetleSpreadsUptoRow : OpenClaim := { program := "ytfbpgnjeafadmaa", sum := "5d6c1f05ac3d4a17f4edab5378ef0e3c33fa500565c28d4812f42747fb07ef0b", func := "vitola/vitolalaw09.BeetleSpreads", spec := "beetleSpreads", unfollowed := true, recurses := true, apart := false, narrowed := true }
def BeetleSpreadsUptoSaid : Prop := beetleSpreadsUptoRow.holds Try.pinned (OpenSpec.upto beetleSpreadsSpec)

/-- 'vitolalaw09.BeetleProves', WHERE WHAT IT READS IS OF BULK AT MOST 1048576: true; the input reads as it did. -/
def beetleProvesUptoRow : OpenClaim := { program := "ytfbpgnjeafadmaa", sum := "5d6c1f05ac3d4a17f4edab5378ef0e3c33fa500565c28d4812f42747fb07ef0b", func := "vitola/vitolalaw09.BeetleProves", spec := "beetleProves", unfollowed := true, recurses := true, apart := false, narrowed := true }
def BeetleProvesUptoSaid : Prop := beetleProvesUptoRow.holds Try.pinned (OpenSpec.upto beetleProvesSpec)

/-- 'vitolalaw09.BeetlePlants', WHERE WHAT IT READS IS OF BULK AT MOST 1048576: true; the input reads as it did. -/
def beetlePlantsUptoRow : OpenClaim := { program := "ytfbpgnjeafadmaa", sum := "5d6c1f05ac3d4a17f4edab5378ef0e3c33fa500565c28d4812f42747fb07ef0b", func := "vitola/vitolalaw09.BeetlePlants", spec := "beetlePlants", unfollowed := true, recurses := true, apart := false, narrowed := true }
def BeetlePlantsUptoSaid : Prop := beetlePlantsUptoRow.holds Try.pinned (OpenSpec.upto beetlePlantsSpec)

/-- 'vitolalaw09.BeetleKeeps', WHERE WHAT IT READS IS OF BULK AT MOST 1048576: true; the input reads as it did. -/
def beetleKeepsUptoRow : OpenClaim := { program := "ytfbpgnjeafadmaa", sum := "5d6c1f05ac3d4a17f4edab5378ef0e3c33fa500565c28d4812f42747fb07ef0b", func := "vitola/vitolalaw09.BeetleKeeps", spec := "beetleKeeps", unfollowed := true, recurses := true, apart := false, narrowed := true }
def BeetleKeepsUptoSaid : Prop := beetleKeepsUptoRow.holds Try.pinned (OpenSpec.upto beetleKeepsSpec)

/-- 'vitolalaw09.BeetleOutline', WHERE WHAT IT READS IS OF BULK AT MOST 1048576: true; the input reads as it did. -/
def beetleOutlineUptoRow : OpenClaim := { program := "ytfbpgnjeafadmaa", sum := "5d6c1f05ac3d4a17f4edab5378ef0e3c33fa500565c28d4812f42747fb07ef0b", func := "vitola/vitolalaw09.BeetleOutline", spec := "beetleOutline", unfollowed := true, recurses := true, apart := false, narrowed := true }
def BeetleOutlineUptoSaid : Prop := beetleOutlineUptoRow.holds Try.pinned (OpenSpec.upto beetleOutlineSpec)

/-- 'vitolalaw09.BeetleReached', WHERE WHAT IT READS IS OF BULK AT MOST 1048576: true; the input reads as it did. -/
def beetleReachedUptoRow : OpenClaim := { program := "ytfbpgnjeafadmaa", sum := "5d6c1f05ac3d4a17f4edab5378ef0e3c33fa500565c28d4812f42747fb07ef0b", func := "vitola/vitolalaw09.BeetleReached", spec := "beetleReached", unfollowed := true, recurses := true, apart := false, narrowed := true }
def BeetleReachedUptoSaid : Prop := beetleReachedUptoRow.holds Try.pinned (OpenSpec.upto beetleReachedSpec)

/-- 'vitolalaw09.BeetleSafe', WHERE WHAT IT READS IS OF BULK AT MOST 1048576: true; the input reads as it did. -/
def beetleSafeUptoRow : OpenClaim := { program := "ytfbpgnjeafadmaa", sum := "5d6c1f05ac3d4a17f4edab5378ef0e3c33fa500565c28d4812f42747fb07ef0b", func := "vitola/vitolalaw09.BeetleSafe", spec := "beetleSafe", unfollowed := true, recurses := true, apart := false, narrowed := true }
def BeetleSafeUptoSaid : Prop := beetleSafeUptoRow.holds Try.pinned (OpenSpec.upto beetleSafeSpec)

/-- 'vitolalaw09.BeetleBlocks', WHERE WHAT IT READS IS OF BULK AT MOST 1048576: true; the input reads as it did. -/
def beetleBlocksUptoRow : OpenClaim := { program := "ytfbpgnjeafadmaa", sum := "5d6c1f05ac3d4a17f4edab5378ef0e3c33fa500565c28d4812f42747fb07ef0b", func := "vitola/vitolalaw09.BeetleBlocks", spec := "beetleBlocks", unfollowed := true, recurses := true, apart := false, narrowed := true }
def BeetleBlocksUptoSaid : Prop := beetleBlocksUptoRow.holds Try.pinned (OpenSpec.upto beetleBlocksSpec)

/-- 'vitolalaw09.BeetleKept', WHERE WHAT IT READS IS OF BULK AT MOST 1048576: true; the input reads as it did. -/
def beetleKeptUptoRow : OpenClaim := { program := "ytfbpgnjeafadmaa", sum := "5d6c1f05ac3d4a17f4edab5378ef0e3c33fa500565c28d4812f42747fb07ef0b", func := "vitola/vitolalaw09.BeetleKept", spec := "beetleKept", unfollowed := true, recurses := true, apart := false, narrowed := true }
def BeetleKeptUptoSaid : Prop := beetleKeptUptoRow.holds Try.pinned (OpenSpec.upto beetleKeptSpec)

/-- 'vitolalaw09.BeetleMore', WHERE WHAT IT READS IS OF BULK AT MOST 1048576: true; the input reads as it did. -/
def beetleMoreUptoRow : OpenClaim := { program := "ytfbpgnjeafadmaa", sum := "5d6c1f05ac3d4a17f4edab5378ef0e3c33fa500565c28d4812f42747fb07ef0b", func := "vitola/vitolalaw09.BeetleMore", spec := "beetleMore", unfollowed := true, recurses := true, apart := false, narrowed := true }
def BeetleMoreUptoSaid : Prop := beetleMoreUptoRow.holds Try.pinned (OpenSpec.upto beetleMoreSpec)

/-- 'vitolalaw09.BeetleTurned', WHERE WHAT IT READS IS OF BULK AT MOST 1048576: true; the input reads as it did. -/
def beetleTurnedUptoRow : OpenClaim := { program := "ytfbpgnjeafadmaa", sum := "5d6c1f05ac3d4a17f4edab5378ef0e3c33fa500565c28d4812f42747fb07ef0b", func := "vitola/vitolalaw09.BeetleTurned", spec := "beetleTurned", unfollowed := true, recurses := true, apart := false, narrowed := true }
def BeetleTurnedUptoSaid : Prop := beetleTurnedUptoRow.holds Try.pinned (OpenSpec.upto beetleTurnedSpec)

/-- 'vitolalaw09.BeetleIdle', WHERE WHAT IT READS IS OF BULK AT MOST 1048576: true; the input reads as it did. -/
def beetleIdleUptoRow : OpenClaim := { program := "ytfbpgnjeafadmaa", sum := "5d6c1f05ac3d4a17f4edab5378ef0e3c33fa500565c28d4812f42747fb07ef0b", func := "vitola/vitolalaw09.BeetleIdle", spec := "beetleIdle", unfollowed := true, recurses := true, apart := false, narrowed := true }
def BeetleIdleUptoSaid : Prop := beetleIdleUptoRow.holds Try.pinned (OpenSpec.upto beetleIdleSpec)

/-- 'vitolalaw09.BeetleKnown', WHERE WHAT IT READS IS OF BULK AT MOST 1048576: true; the input reads as it did. -/
def beetleKnownUptoRow : OpenClaim := { program := "ytfbpgnjeafadmaa", sum := "5d6c1f05ac3d4a17f4edab5378ef0e3c33fa500565c28d4812f42747fb07ef0b", func := "vitola/vitolalaw09.BeetleKnown", spec := "beetleKnown", unfollowed := true, recurses := true, apart := false, narrowed := true }
def BeetleKnownUptoSaid : Prop := beetleKnownUptoRow.holds Try.pinned (OpenSpec.upto beetleKnownSpec)

end Rows
end Go.Proofs.Ytfbpgnjeafadmaa
