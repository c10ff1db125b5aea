/-
  No cell of these rows narrows 'for every input' (looked for: loops, veiled, ifaces, maps, wideKeys, modest, calm, conditions, laid).
  DERIVED. THE GIVEN ROWS OF THIS SEAT. 11 by the template 'for every input the law returns true; each argument reads behind the call as it read before'; 0 by the template 'total and deterministic' (their statements: YtcidcihpkdoejaaTotals.lean).
  GIVEN WITH THE SEED: the statements are not yours to turn. If you find one false, say at which input.
  Laid BY PROGRAM, IN A SANDBOX (cutbox-rows.mjs): the forced cells as the released guide's own fill.sh prints them over the translation 988996a36cdc27bb… (all of the seat's roots in one cut). By AI agents, Wed Nov 11 2026. No macro, syntax, notation, axiom, sorry.
-/
import Derived.Test.YtcidcihpkdoejaaChecked
import GoSem.Claim
import GoSem.ClaimJoined
import GoSem.ClaimMapViews
import Derived.JoinedTies
import Derived.KernelRfl
namespace Go.Proofs.Ytcidcihpkdoejaa
/- THE CELL 'sum', in the pinned program and in every row, IS THE sha256 OF THE DUMP (.gsa) THAT YtcidcihpkdoejaaProg.lean LOADS. Nothing in Lean hashes anything: it is a label: what it is worth is what the hold of that sum in a sandbox is worth. -/
noncomputable def Try.pinned : Pinned := { name := "ytcidcihpkdoejaa", sum := "988996a36cdc27bb8f36a8ddb981f343f38554963c32bcf58089b20ed84517b8", checked := Try.checked }
namespace Rows
def none {H : Type} : Left H := { results := [], args := [] }

/-- 'vitolalaw10.BondRules': WHATEVER THE INPUT: true; the input reads as it did. -/
def bondRulesSpec : ChangeSpec := { name := "bondRules", fn := fun _ => fun
  | [d1, d2] => { results := [.lit (.bool true)], args := [d1, d2] }
  | _ => none }
def bondRulesRow : OpenClaim := { program := "ytcidcihpkdoejaa", sum := "988996a36cdc27bb8f36a8ddb981f343f38554963c32bcf58089b20ed84517b8", func := "vitola/vitolalaw10.BondRules", spec := "bondRules", unfollowed := true, recurses := true, apart := false }
def BondRulesSaid : Prop := bondRulesRow.holds Try.pinned (OpenSpec.ofChange bondRulesSpec)

/-- ITS FALSE NEIGHBOUR: 'it returns false'. Refute it at one input. -/
def bondRulesWrong : ChangeSpec := { name := "bondRules", fn := fun _ => fun
  | [d1, d2] => { results := [.lit (.bool false)], args := [d1, d2] }
  | _ => none }
def BondRulesWrongFalsely : Prop := bondRulesRow.holds Try.pinned (OpenSpec.ofChange bondRulesWrong)

/-- 'vitolalaw10.BondPlans': WHATEVER THE INPUT: true; the input reads as it did. -/
def bondPlansSpec : ChangeSpec := { name := "bondPlans", fn := fun _ => fun
  | [d1, d2] => { results := [.lit (.bool true)], args := [d1, d2] }
  | _ => none }
def bondPlansRow : OpenClaim := { program := "ytcidcihpkdoejaa", sum := "988996a36cdc27bb8f36a8ddb981f343f38554963c32bcf58089b20ed84517b8", func := "vitola/vitolalaw10.BondPlans", spec := "bondPlans", unfollowed := true, recurses := true, apart := false }
def BondPlansSaid : Prop := bondPlansRow.holds Try.pinned (OpenSpec.ofChange bondPlansSpec)

/-- ITS FALSE NEIGHBOUR: 'it returns false'. Refute it at one input. -/
def bondPlansWrong : ChangeSpec := { name := "bondPlans", fn := fun _ => fun
  | [d1, d2] => { results := [.lit (.bool false)], args := [d1, d2] }
  | _ => none }
def BondPlansWrongFalsely : Prop := bondPlansRow.holds Try.pinned (OpenSpec.ofChange bondPlansWrong)

/-- 'vitolalaw10.BondMade': WHATEVER THE INPUT: true; the input reads as it did. -/
def bondMadeSpec : ChangeSpec := { name := "bondMade", fn := fun _ => fun
  | [d1, d2] => { results := [.lit (.bool true)], args := [d1, d2] }
  | _ => none }
def bondMadeRow : OpenClaim := { program := "ytcidcihpkdoejaa", sum := "988996a36cdc27bb8f36a8ddb981f343f38554963c32bcf58089b20ed84517b8", func := "vitola/vitolalaw10.BondMade", spec := "bondMade", unfollowed := true, recurses := true, apart := false }
def BondMadeSaid : Prop := bondMadeRow.holds Try.pinned (OpenSpec.ofChange bondMadeSpec)

/-- ITS FALSE NEIGHBOUR: 'it returns false'. Refute it at one input. -/
def bondMadeWrong : ChangeSpec := { name := "bondMade", fn := fun _ => fun
  | [d1, d2] => { results := [.lit (.bool false)], args := [d1, d2] }
  | _ => none }
def BondMadeWrongFalsely : Prop := bondMadeRow.holds Try.pinned (OpenSpec.ofChange bondMadeWrong)

/-- 'vitolalaw10.BondAny': WHATEVER THE INPUT: true; the input reads as it did. -/
def bondAnySpec : ChangeSpec := { name := "bondAny", fn := fun _ => fun
  | [d1, d2] => { results := [.lit (.bool true)], args := [d1, d2] }
  | _ => none }
def bondAnyRow : OpenClaim := { program := "ytcidcihpkdoejaa", sum := "988996a36cdc27bb8f36a8ddb981f343f38554963c32bcf58089b20ed84517b8", func := "vitola/vitolalaw10.BondAny", spec := "bondAny", unfollowed := true, recurses := true, apart := false }
def BondAnySaid : Prop := bondAnyRow.holds Try.pinned (OpenSpec.ofChange bondAnySpec)

/-- ITS FALSE NEIGHBOUR: 'it returns false'. Refute it at one input. -/
def bondAnyWrong : ChangeSpec := { name := "bondAny", fn := fun _ => fun
  | [d1, d2] => { results := [.lit (.bool false)], args := [d1, d2] }
  | _ => none }
def BondAnyWrongFalsely : Prop := bondAnyRow.holds Try.pinned (OpenSpec.ofChange bondAnyWrong)

/-- 'vitolalaw10.BondSteinhaus': WHATEVER THE INPUT: true; the input reads as it did. -/
def bondSteinhausSpec : ChangeSpec := { name := "bondSteinhaus", fn := fun _ => fun
  | [d] => { results := [.lit (.bool true)], args := [d] }
  | _ => none }
def bondSteinhausRow : OpenClaim := { program := "ytcidcihpkdoejaa", sum := "988996a36cdc27bb8f36a8ddb981f343f38554963c32bcf58089b20ed84517b8", func := "vitola/vitolalaw10.BondSteinhaus", spec := "bondSteinhaus", unfollowed := true, recurses := true, apart := false }
def BondSteinhausSaid : Prop := bondSteinhausRow.holds Try.pinned (OpenSpec.ofChange bondSteinhausSpec)

/-- ITS FALSE NEIGHBOUR: 'it returns false'. Refute it at one input. -/
def bondSteinhausWrong : ChangeSpec := { name := "bondSteinhaus", fn := fun _ => fun
  | [d] => { results := [.lit (.bool false)], args := [d] }
  | _ => none }
def BondSteinhausWrongFalsely : Prop := bondSteinhausRow.holds Try.pinned (OpenSpec.ofChange bondSteinhausWrong)

/-- 'vitolalaw10.BondEdges': WHATEVER THE INPUT: true; the input reads as it did. -/
def bondEdgesSpec : ChangeSpec := { name := "bondEdges", fn := fun _ => fun
  | [d] => { results := [.lit (.bool true)], args := [d] }
  | _ => none }
def bondEdgesRow : OpenClaim := { program := "ytcidcihpkdoejaa", sum := "988996a36cdc27bb8f36a8ddb981f343f38554963c32bcf58089b20ed84517b8", func := "vitola/vitolalaw10.BondEdges", spec := "bondEdges", unfollowed := true, recurses := true, apart := false }
def BondEdgesSaid : Prop := bondEdgesRow.holds Try.pinned (OpenSpec.ofChange bondEdgesSpec)

/-- ITS FALSE NEIGHBOUR: 'it returns false'. Refute it at one input. -/
def bondEdgesWrong : ChangeSpec := { name := "bondEdges", fn := fun _ => fun
  | [d] => { results := [.lit (.bool false)], args := [d] }
  | _ => none }
def BondEdgesWrongFalsely : Prop := bondEdgesRow.holds Try.pinned (OpenSpec.ofChange bondEdgesWrong)

/-- 'vitolalaw10.BondCounted': WHATEVER THE INPUT: true; the input reads as it did. -/
def bondCountedSpec : ChangeSpec := { name := "bondCounted", fn := fun _ => fun
  | [d1, d2] => { results := [.lit (.bool true)], args := [d1, d2] }
  | _ => none }
def bondCountedRow : OpenClaim := { program := "ytcidcihpkdoejaa", sum := "988996a36cdc27bb8f36a8ddb981f343f38554963c32bcf58089b20ed84517b8", func := "vitola/vitolalaw10.BondCounted", spec := "bondCounted", unfollowed := true, recurses := true, apart := false }
def BondCountedSaid : Prop := bondCountedRow.holds Try.pinned (OpenSpec.ofChange bondCountedSpec)

/-- ITS FALSE NEIGHBOUR: 'it returns false'. Refute it at one input. -/
def bondCountedWrong : ChangeSpec := { name := "bondCounted", fn := fun _ => fun
  | [d1, d2] => { results := [.lit (.bool false)], args := [d1, d2] }
  | _ => none }
def BondCountedWrongFalsely : Prop := bondCountedRow.holds Try.pinned (OpenSpec.ofChange bondCountedWrong)

/-- 'vitolalaw10.BondDual': WHATEVER THE INPUT: true; the input reads as it did. -/
def bondDualSpec : ChangeSpec := { name := "bondDual", fn := fun _ => fun
  | [d] => { results := [.lit (.bool true)], args := [d] }
  | _ => none }
def bondDualRow : OpenClaim := { program := "ytcidcihpkdoejaa", sum := "988996a36cdc27bb8f36a8ddb981f343f38554963c32bcf58089b20ed84517b8", func := "vitola/vitolalaw10.BondDual", spec := "bondDual", unfollowed := true, recurses := true, apart := false }
def BondDualSaid : Prop := bondDualRow.holds Try.pinned (OpenSpec.ofChange bondDualSpec)

/-- ITS FALSE NEIGHBOUR: 'it returns false'. Refute it at one input. -/
def bondDualWrong : ChangeSpec := { name := "bondDual", fn := fun _ => fun
  | [d] => { results := [.lit (.bool false)], args := [d] }
  | _ => none }
def BondDualWrongFalsely : Prop := bondDualRow.holds Try.pinned (OpenSpec.ofChange bondDualWrong)

/-- 'vitolalaw10.BondMore': WHATEVER THE INPUT: true; the input reads as it did. -/
def bondMoreSpec : ChangeSpec := { name := "bondMore", fn := fun _ => fun
  | [d1, d2, d3, d4] => { results := [.lit (.bool true)], args := [d1, d2, d3, d4] }
  | _ => none }
def bondMoreRow : OpenClaim := { program := "ytcidcihpkdoejaa", sum := "988996a36cdc27bb8f36a8ddb981f343f38554963c32bcf58089b20ed84517b8", func := "vitola/vitolalaw10.BondMore", spec := "bondMore", unfollowed := true, recurses := true, apart := false }
def BondMoreSaid : Prop := bondMoreRow.holds Try.pinned (OpenSpec.ofChange bondMoreSpec)

/-- ITS FALSE NEIGHBOUR: 'it returns false'. Refute it at one input. -/
def bondMoreWrong : ChangeSpec := { name := "bondMore", fn := fun _ => fun
  | [d1, d2, d3, d4] => { results := [.lit (.bool false)], args := [d1, d2, d3, d4] }
  | _ => none }
def BondMoreWrongFalsely : Prop := bondMoreRow.holds Try.pinned (OpenSpec.ofChange bondMoreWrong)

/-- 'vitolalaw10.BondNamed': WHATEVER THE INPUT: true; the input reads as it did. -/
def bondNamedSpec : ChangeSpec := { name := "bondNamed", fn := fun _ => fun
  | [d1, d2] => { results := [.lit (.bool true)], args := [d1, d2] }
  | _ => none }
def bondNamedRow : OpenClaim := { program := "ytcidcihpkdoejaa", sum := "988996a36cdc27bb8f36a8ddb981f343f38554963c32bcf58089b20ed84517b8", func := "vitola/vitolalaw10.BondNamed", spec := "bondNamed", unfollowed := true, recurses := true, apart := false }
def BondNamedSaid : Prop := bondNamedRow.holds Try.pinned (OpenSpec.ofChange bondNamedSpec)

/-- ITS FALSE NEIGHBOUR: 'it returns false'. Refute it at one input. -/
def bondNamedWrong : ChangeSpec := { name := "bondNamed", fn := fun _ => fun
  | [d1, d2] => { results := [.lit (.bool false)], args := [d1, d2] }
  | _ => none }
def BondNamedWrongFalsely : Prop := bondNamedRow.holds Try.pinned (OpenSpec.ofChange bondNamedWrong)

/-- 'vitolalaw10.BondKnown': WHATEVER THE INPUT: true; the input reads as it did. -/
def bondKnownSpec : ChangeSpec := { name := "bondKnown", fn := fun _ => fun
  | [] => { results := [.lit (.bool true)], args := [] }
  | _ => none }
def bondKnownRow : OpenClaim := { program := "ytcidcihpkdoejaa", sum := "988996a36cdc27bb8f36a8ddb981f343f38554963c32bcf58089b20ed84517b8", func := "vitola/vitolalaw10.BondKnown", spec := "bondKnown", unfollowed := true, recurses := true, apart := false }
def BondKnownSaid : Prop := bondKnownRow.holds Try.pinned (OpenSpec.ofChange bondKnownSpec)

/-- ITS FALSE NEIGHBOUR: 'it returns false'. Refute it at one input. -/
def bondKnownWrong : ChangeSpec := { name := "bondKnown", fn := fun _ => fun
  | [] => { results := [.lit (.bool false)], args := [] }
  | _ => none }
def BondKnownWrongFalsely : Prop := bondKnownRow.holds Try.pinned (OpenSpec.ofChange bondKnownWrong)

/- THE SECOND FORM. 'bulk': how many values and letters a reading holds, each counted each time it is reached (what is shared counts as often as it is met; a slice's spare places count too). A statement '..UptoSaid' is the law's where the arguments, and the package variables that the reading takes, are together of bulk at most 1048576: NARROWER than '..Said'. Prove '..Said' where nothing that the law and all that it calls make is longer than what came in: it says more and counts as full. Else prove '..UptoSaid'. A law counts once. -/
mutual
def uptoBulk {H : Type} : DataW H → Nat
  | .lit (.string bytes) => bytes.length + 1
  | .lit _ => 1
  | .nil => 1
  | .ptr d => uptoBulk d + 1
  | .slice elems spare => uptoBulkAll elems + uptoBulkAll spare + 1
  | .agg parts => uptoBulkAll parts + 1
  | .iface _ d => uptoBulk d + 1
  | .map entries => uptoBulkEntries entries + 1
  | .held _ => 1
def uptoBulkAll {H : Type} : List (DataW H) → Nat
  | [] => 0
  | d :: r => uptoBulk d + uptoBulkAll r
def uptoBulkEntries {H : Type} : List (Lit × DataW H) → Nat
  | [] => 0
  | x :: r => uptoBulkEntry x + uptoBulkEntries r
def uptoBulkEntry {H : Type} : Lit × DataW H → Nat
  | (.string bytes, d) => bytes.length + uptoBulk d + 1
  | (_, d) => uptoBulk d + 1
 end
def uptoSmall : (H : Type) → List (DataW H) → Bool := fun _ ds => decide (uptoBulkAll ds ≤ 1048576)
def OpenSpec.upto (s : _root_.Go.ChangeSpec) : _root_.Go.OpenSpec := { _root_.Go.OpenSpec.ofChange s with cond := some uptoSmall }

/-- 'vitolalaw10.BondRules', WHERE WHAT IT READS IS OF BULK AT MOST 1048576: true; the input reads as it did. -/
def bondRulesUptoRow : OpenClaim := { program := "ytcidcihpkdoejaa", sum := "988996a36cdc27bb8f36a8ddb981f343f38554963c32bcf58089b20ed84517b8", func := "vitola/vitolalaw10.BondRules", spec := "bondRules", unfollowed := true, recurses := true, apart := false, narrowed := true }
def BondRulesUptoSaid : Prop := bondRulesUptoRow.holds Try.pinned (OpenSpec.upto bondRulesSpec)

/-- 'vitolalaw10.BondPlans', WHERE WHAT IT READS IS OF BULK AT MOST 1048576: true; the input reads as it did. -/
def bondPlansUptoRow : OpenClaim := { program := "ytcidcihpkdoejaa", sum := "988996a36cdc27bb8f36a8ddb981f343f38554963c32bcf58089b20ed84517b8", func := "vitola/vitolalaw10.BondPlans", spec := "bondPlans", unfollowed := true, recurses := true, apart := false, narrowed := true }
def BondPlansUptoSaid : Prop := bondPlansUptoRow.holds Try.pinned (OpenSpec.upto bondPlansSpec)

/-- 'vitolalaw10.BondMade', WHERE WHAT IT READS IS OF BULK AT MOST 1048576: true; the input reads as it did. -/
def bondMadeUptoRow : OpenClaim := { program := "ytcidcihpkdoejaa", sum := "988996a36cdc27bb8f36a8ddb981f343f38554963c32bcf58089b20ed84517b8", func := "vitola/vitolalaw10.BondMade", spec := "bondMade", unfollowed := true, recurses := true, apart := false, narrowed := true }
def BondMadeUptoSaid : Prop := bondMadeUptoRow.holds Try.pinned (OpenSpec.upto bondMadeSpec)

/-- 'vitolalaw10.BondAny', WHERE WHAT IT READS IS OF BULK AT MOST 1048576: true; the input reads as it did. -/
def bondAnyUptoRow : OpenClaim := { program := "ytcidcihpkdoejaa", sum := "988996a36cdc27bb8f36a8ddb981f343f38554963c32bcf58089b20ed84517b8", func := "vitola/vitolalaw10.BondAny", spec := "bondAny", unfollowed := true, recurses := true, apart := false, narrowed := true }
def BondAnyUptoSaid : Prop := bondAnyUptoRow.holds Try.pinned (OpenSpec.upto bondAnySpec)

/-- 'vitolalaw10.BondSteinhaus', WHERE WHAT IT READS IS OF BULK AT MOST 1048576: true; the input reads as it did. -/
def bondSteinhausUptoRow : OpenClaim := { program := "ytcidcihpkdoejaa", sum := "988996a36cdc27bb8f36a8ddb981f343f38554963c32bcf58089b20ed84517b8", func := "vitola/vitolalaw10.BondSteinhaus", spec := "bondSteinhaus", unfollowed := true, recurses := true, apart := false, narrowed := true }
def BondSteinhausUptoSaid : Prop := bondSteinhausUptoRow.holds Try.pinned (OpenSpec.upto bondSteinhausSpec)

/-- 'vitolalaw10.BondEdges', WHERE WHAT IT READS IS OF BULK AT MOST 1048576: true; the input reads as it did. -/
def bondEdgesUptoRow : OpenClaim := { program := "ytcidcihpkdoejaa", sum := "988996a36cdc27bb8f36a8ddb981f343f38554963c32bcf58089b20ed84517b8", func := "vitola/vitolalaw10.BondEdges", spec := "bondEdges", unfollowed := true, recurses := true, apart := false, narrowed := true }
def BondEdgesUptoSaid : Prop := bondEdgesUptoRow.holds Try.pinned (OpenSpec.upto bondEdgesSpec)

/-- 'vitolalaw10.BondCounted', WHERE WHAT IT READS IS OF BULK AT MOST 1048576: true; the input reads as it did. -/
def bondCountedUptoRow : OpenClaim := { program := "ytcidcihpkdoejaa", sum := "988996a36cdc27bb8f36a8ddb981f343f38554963c32bcf58089b20ed84517b8", func := "vitola/vitolalaw10.BondCounted", spec := "bondCounted", unfollowed := true, recurses := true, apart := false, narrowed := true }
def BondCountedUptoSaid : Prop := bondCountedUptoRow.holds Try.pinned (OpenSpec.upto bondCountedSpec)

/-- 'vitolalaw10.BondDual', WHERE WHAT IT READS IS OF BULK AT MOST 1048576: true; the input reads as it did. -/
def bondDualUptoRow : OpenClaim := { program := "ytcidcihpkdoejaa", sum := "988996a36cdc27bb8f36a8ddb981f343f38554963c32bcf58089b20ed84517b8", func := "vitola/vitolalaw10.BondDual", spec := "bondDual", unfollowed := true, recurses := true, apart := false, narrowed := true }
def BondDualUptoSaid : Prop := bondDualUptoRow.holds Try.pinned (OpenSpec.upto bondDualSpec)

/-- 'vitolalaw10.BondMore', WHERE WHAT IT READS IS OF BULK AT MOST 1048576: true; the input reads as it did. -/
def bondMoreUptoRow : OpenClaim := { program := "ytcidcihpkdoejaa", sum := "988996a36cdc27bb8f36a8ddb981f343f38554963c32bcf58089b20ed84517b8", func := "vitola/vitolalaw10.BondMore", spec := "bondMore", unfollowed := true, recurses := true, apart := false, narrowed := true }
def BondMoreUptoSaid : Prop := bondMoreUptoRow.holds Try.pinned (OpenSpec.upto bondMoreSpec)

/-- 'vitolalaw10.BondNamed', WHERE WHAT IT READS IS OF BULK AT MOST 1048576: true; the input reads as it did. -/
def bondNamedUptoRow : OpenClaim := { program := "ytcidcihpkdoejaa", sum := "988996a36cdc27bb8f36a8ddb981f343f38554963c32bcf58089b20ed84517b8", func := "vitola/vitolalaw10.BondNamed", spec := "bondNamed", unfollowed := true, recurses := true, apart := false, narrowed := true }
def BondNamedUptoSaid : Prop := bondNamedUptoRow.holds Try.pinned (OpenSpec.upto bondNamedSpec)

/-- 'vitolalaw10.BondKnown', WHERE WHAT IT READS IS OF BULK AT MOST 1048576: true; the input reads as it did. -/
def bondKnownUptoRow : OpenClaim := { program := "ytcidcihpkdoejaa", sum := "988996a36cdc27bb8f36a8ddb981f343f38554963c32bcf58089b20ed84517b8", func := "vitola/vitolalaw10.BondKnown", spec := "bondKnown", unfollowed := true, recurses := true, apart := false, narrowed := true }
def BondKnownUptoSaid : Prop := bondKnownUptoRow.holds Try.pinned (OpenSpec.upto bondKnownSpec)

end Rows
end Go.Proofs.Ytcidcihpkdoejaa
