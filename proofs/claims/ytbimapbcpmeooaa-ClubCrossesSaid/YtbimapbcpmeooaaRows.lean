/-
  No cell of these rows narrows 'for every input' (looked for: loops, veiled, ifaces, maps, wideKeys, modest, calm, conditions, laid).
  DERIVED. THE GIVEN ROWS OF THIS SEAT. 11 by the template 'for every input the law returns true; each argument reads behind the call as it read before'; 0 by the template 'total and deterministic' (their statements: YtbimapbcpmeooaaTotals.lean).
  GIVEN WITH THE SEED: the statements are not yours to turn. If you find one false, say at which input.
  Laid BY PROGRAM, IN A SANDBOX (cutbox-rows.mjs): the forced cells as the released guide's own fill.sh prints them over the translation cff124241c5e6ef1… (all of the seat's roots in one cut). By AI agents, Wed Nov 11 2026. No macro, syntax, notation, axiom, sorry.
-/
import Derived.Test.YtbimapbcpmeooaaChecked
import GoSem.Claim
import GoSem.ClaimJoined
import GoSem.ClaimMapViews
import Derived.JoinedTies
import Derived.KernelRfl
namespace Go.Proofs.Ytbimapbcpmeooaa
/- THE CELL 'sum', in the pinned program and in every row, IS THE sha256 OF THE DUMP (.gsa) THAT YtbimapbcpmeooaaProg.lean LOADS. Nothing in Lean hashes anything: it is a label: what it is worth is what the hold of that sum in a sandbox is worth. -/
noncomputable def Try.pinned : Pinned := { name := "ytbimapbcpmeooaa", sum := "cff124241c5e6ef17546b3ada50873479056a74c885ef31d9193179304d2c316", checked := Try.checked }
namespace Rows
def none {H : Type} : Left H := { results := [], args := [] }

/-- 'vitolalaw12.ClubCan': WHATEVER THE INPUT: true; the input reads as it did. -/
def clubCanSpec : ChangeSpec := { name := "clubCan", fn := fun _ => fun
  | [d1, d2] => { results := [.lit (.bool true)], args := [d1, d2] }
  | _ => none }
def clubCanRow : OpenClaim := { program := "ytbimapbcpmeooaa", sum := "cff124241c5e6ef17546b3ada50873479056a74c885ef31d9193179304d2c316", func := "vitola/vitolalaw12.ClubCan", spec := "clubCan", unfollowed := true, recurses := true, plainKeys := false, apart := false }
def ClubCanSaid : Prop := clubCanRow.holds Try.pinned (OpenSpec.ofChange clubCanSpec)

/-- ITS FALSE NEIGHBOUR: 'it returns false'. Refute it at one input. -/
def clubCanWrong : ChangeSpec := { name := "clubCan", fn := fun _ => fun
  | [d1, d2] => { results := [.lit (.bool false)], args := [d1, d2] }
  | _ => none }
def ClubCanWrongFalsely : Prop := clubCanRow.holds Try.pinned (OpenSpec.ofChange clubCanWrong)

/-- 'vitolalaw12.ClubMakes': WHATEVER THE INPUT: true; the input reads as it did. -/
def clubMakesSpec : ChangeSpec := { name := "clubMakes", fn := fun _ => fun
  | [d] => { results := [.lit (.bool true)], args := [d] }
  | _ => none }
def clubMakesRow : OpenClaim := { program := "ytbimapbcpmeooaa", sum := "cff124241c5e6ef17546b3ada50873479056a74c885ef31d9193179304d2c316", func := "vitola/vitolalaw12.ClubMakes", spec := "clubMakes", unfollowed := true, recurses := true, plainKeys := false, apart := false }
def ClubMakesSaid : Prop := clubMakesRow.holds Try.pinned (OpenSpec.ofChange clubMakesSpec)

/-- ITS FALSE NEIGHBOUR: 'it returns false'. Refute it at one input. -/
def clubMakesWrong : ChangeSpec := { name := "clubMakes", fn := fun _ => fun
  | [d] => { results := [.lit (.bool false)], args := [d] }
  | _ => none }
def ClubMakesWrongFalsely : Prop := clubMakesRow.holds Try.pinned (OpenSpec.ofChange clubMakesWrong)

/-- 'vitolalaw12.ClubPlans': WHATEVER THE INPUT: true; the input reads as it did. -/
def clubPlansSpec : ChangeSpec := { name := "clubPlans", fn := fun _ => fun
  | [d] => { results := [.lit (.bool true)], args := [d] }
  | _ => none }
def clubPlansRow : OpenClaim := { program := "ytbimapbcpmeooaa", sum := "cff124241c5e6ef17546b3ada50873479056a74c885ef31d9193179304d2c316", func := "vitola/vitolalaw12.ClubPlans", spec := "clubPlans", unfollowed := true, recurses := true, plainKeys := false, apart := false }
def ClubPlansSaid : Prop := clubPlansRow.holds Try.pinned (OpenSpec.ofChange clubPlansSpec)

/-- ITS FALSE NEIGHBOUR: 'it returns false'. Refute it at one input. -/
def clubPlansWrong : ChangeSpec := { name := "clubPlans", fn := fun _ => fun
  | [d] => { results := [.lit (.bool false)], args := [d] }
  | _ => none }
def ClubPlansWrongFalsely : Prop := clubPlansRow.holds Try.pinned (OpenSpec.ofChange clubPlansWrong)

/-- 'vitolalaw12.ClubCrosses': WHATEVER THE INPUT: true; the input reads as it did. -/
def clubCrossesSpec : ChangeSpec := { name := "clubCrosses", fn := fun _ => fun
  | [d1, d2, d3, d4] => { results := [.lit (.bool true)], args := [d1, d2, d3, d4] }
  | _ => none }
def clubCrossesRow : OpenClaim := { program := "ytbimapbcpmeooaa", sum := "cff124241c5e6ef17546b3ada50873479056a74c885ef31d9193179304d2c316", func := "vitola/vitolalaw12.ClubCrosses", spec := "clubCrosses", unfollowed := true, recurses := true, plainKeys := false, apart := false }
def ClubCrossesSaid : Prop := clubCrossesRow.holds Try.pinned (OpenSpec.ofChange clubCrossesSpec)

/-- ITS FALSE NEIGHBOUR: 'it returns false'. Refute it at one input. -/
def clubCrossesWrong : ChangeSpec := { name := "clubCrosses", fn := fun _ => fun
  | [d1, d2, d3, d4] => { results := [.lit (.bool false)], args := [d1, d2, d3, d4] }
  | _ => none }
def ClubCrossesWrongFalsely : Prop := clubCrossesRow.holds Try.pinned (OpenSpec.ofChange clubCrossesWrong)

/-- 'vitolalaw12.ClubGallai': WHATEVER THE INPUT: true; the input reads as it did. -/
def clubGallaiSpec : ChangeSpec := { name := "clubGallai", fn := fun _ => fun
  | [d] => { results := [.lit (.bool true)], args := [d] }
  | _ => none }
def clubGallaiRow : OpenClaim := { program := "ytbimapbcpmeooaa", sum := "cff124241c5e6ef17546b3ada50873479056a74c885ef31d9193179304d2c316", func := "vitola/vitolalaw12.ClubGallai", spec := "clubGallai", unfollowed := true, recurses := true, plainKeys := false, apart := false }
def ClubGallaiSaid : Prop := clubGallaiRow.holds Try.pinned (OpenSpec.ofChange clubGallaiSpec)

/-- ITS FALSE NEIGHBOUR: 'it returns false'. Refute it at one input. -/
def clubGallaiWrong : ChangeSpec := { name := "clubGallai", fn := fun _ => fun
  | [d] => { results := [.lit (.bool false)], args := [d] }
  | _ => none }
def ClubGallaiWrongFalsely : Prop := clubGallaiRow.holds Try.pinned (OpenSpec.ofChange clubGallaiWrong)

/-- 'vitolalaw12.ClubListed': WHATEVER THE INPUT: true; the input reads as it did. -/
def clubListedSpec : ChangeSpec := { name := "clubListed", fn := fun _ => fun
  | [d] => { results := [.lit (.bool true)], args := [d] }
  | _ => none }
def clubListedRow : OpenClaim := { program := "ytbimapbcpmeooaa", sum := "cff124241c5e6ef17546b3ada50873479056a74c885ef31d9193179304d2c316", func := "vitola/vitolalaw12.ClubListed", spec := "clubListed", unfollowed := true, recurses := true, plainKeys := false, apart := false }
def ClubListedSaid : Prop := clubListedRow.holds Try.pinned (OpenSpec.ofChange clubListedSpec)

/-- ITS FALSE NEIGHBOUR: 'it returns false'. Refute it at one input. -/
def clubListedWrong : ChangeSpec := { name := "clubListed", fn := fun _ => fun
  | [d] => { results := [.lit (.bool false)], args := [d] }
  | _ => none }
def ClubListedWrongFalsely : Prop := clubListedRow.holds Try.pinned (OpenSpec.ofChange clubListedWrong)

/-- 'vitolalaw12.ClubCrossed': WHATEVER THE INPUT: true; the input reads as it did. -/
def clubCrossedSpec : ChangeSpec := { name := "clubCrossed", fn := fun _ => fun
  | [d] => { results := [.lit (.bool true)], args := [d] }
  | _ => none }
def clubCrossedRow : OpenClaim := { program := "ytbimapbcpmeooaa", sum := "cff124241c5e6ef17546b3ada50873479056a74c885ef31d9193179304d2c316", func := "vitola/vitolalaw12.ClubCrossed", spec := "clubCrossed", unfollowed := true, recurses := true, plainKeys := false, apart := false }
def ClubCrossedSaid : Prop := clubCrossedRow.holds Try.pinned (OpenSpec.ofChange clubCrossedSpec)

/-- ITS FALSE NEIGHBOUR: 'it returns false'. Refute it at one input. -/
def clubCrossedWrong : ChangeSpec := { name := "clubCrossed", fn := fun _ => fun
  | [d] => { results := [.lit (.bool false)], args := [d] }
  | _ => none }
def ClubCrossedWrongFalsely : Prop := clubCrossedRow.holds Try.pinned (OpenSpec.ofChange clubCrossedWrong)

/-- 'vitolalaw12.ClubGoodman': WHATEVER THE INPUT: true; the input reads as it did. -/
def clubGoodmanSpec : ChangeSpec := { name := "clubGoodman", fn := fun _ => fun
  | [d] => { results := [.lit (.bool true)], args := [d] }
  | _ => none }
def clubGoodmanRow : OpenClaim := { program := "ytbimapbcpmeooaa", sum := "cff124241c5e6ef17546b3ada50873479056a74c885ef31d9193179304d2c316", func := "vitola/vitolalaw12.ClubGoodman", spec := "clubGoodman", unfollowed := true, recurses := true, plainKeys := false, apart := false }
def ClubGoodmanSaid : Prop := clubGoodmanRow.holds Try.pinned (OpenSpec.ofChange clubGoodmanSpec)

/-- ITS FALSE NEIGHBOUR: 'it returns false'. Refute it at one input. -/
def clubGoodmanWrong : ChangeSpec := { name := "clubGoodman", fn := fun _ => fun
  | [d] => { results := [.lit (.bool false)], args := [d] }
  | _ => none }
def ClubGoodmanWrongFalsely : Prop := clubGoodmanRow.holds Try.pinned (OpenSpec.ofChange clubGoodmanWrong)

/-- 'vitolalaw12.ClubHavel': WHATEVER THE INPUT: true; the input reads as it did. -/
def clubHavelSpec : ChangeSpec := { name := "clubHavel", fn := fun _ => fun
  | [d1, d2, d3] => { results := [.lit (.bool true)], args := [d1, d2, d3] }
  | _ => none }
def clubHavelRow : OpenClaim := { program := "ytbimapbcpmeooaa", sum := "cff124241c5e6ef17546b3ada50873479056a74c885ef31d9193179304d2c316", func := "vitola/vitolalaw12.ClubHavel", spec := "clubHavel", unfollowed := true, recurses := true, plainKeys := false, apart := false }
def ClubHavelSaid : Prop := clubHavelRow.holds Try.pinned (OpenSpec.ofChange clubHavelSpec)

/-- ITS FALSE NEIGHBOUR: 'it returns false'. Refute it at one input. -/
def clubHavelWrong : ChangeSpec := { name := "clubHavel", fn := fun _ => fun
  | [d1, d2, d3] => { results := [.lit (.bool false)], args := [d1, d2, d3] }
  | _ => none }
def ClubHavelWrongFalsely : Prop := clubHavelRow.holds Try.pinned (OpenSpec.ofChange clubHavelWrong)

/-- 'vitolalaw12.ClubNamed': WHATEVER THE INPUT: true; the input reads as it did. -/
def clubNamedSpec : ChangeSpec := { name := "clubNamed", fn := fun _ => fun
  | [d1, d2, d3] => { results := [.lit (.bool true)], args := [d1, d2, d3] }
  | _ => none }
def clubNamedRow : OpenClaim := { program := "ytbimapbcpmeooaa", sum := "cff124241c5e6ef17546b3ada50873479056a74c885ef31d9193179304d2c316", func := "vitola/vitolalaw12.ClubNamed", spec := "clubNamed", unfollowed := true, recurses := true, plainKeys := false, apart := false }
def ClubNamedSaid : Prop := clubNamedRow.holds Try.pinned (OpenSpec.ofChange clubNamedSpec)

/-- ITS FALSE NEIGHBOUR: 'it returns false'. Refute it at one input. -/
def clubNamedWrong : ChangeSpec := { name := "clubNamed", fn := fun _ => fun
  | [d1, d2, d3] => { results := [.lit (.bool false)], args := [d1, d2, d3] }
  | _ => none }
def ClubNamedWrongFalsely : Prop := clubNamedRow.holds Try.pinned (OpenSpec.ofChange clubNamedWrong)

/-- 'vitolalaw12.ClubKnown': WHATEVER THE INPUT: true; the input reads as it did. -/
def clubKnownSpec : ChangeSpec := { name := "clubKnown", fn := fun _ => fun
  | [] => { results := [.lit (.bool true)], args := [] }
  | _ => none }
def clubKnownRow : OpenClaim := { program := "ytbimapbcpmeooaa", sum := "cff124241c5e6ef17546b3ada50873479056a74c885ef31d9193179304d2c316", func := "vitola/vitolalaw12.ClubKnown", spec := "clubKnown", unfollowed := true, recurses := true, plainKeys := false, apart := false }
def ClubKnownSaid : Prop := clubKnownRow.holds Try.pinned (OpenSpec.ofChange clubKnownSpec)

/-- ITS FALSE NEIGHBOUR: 'it returns false'. Refute it at one input. -/
def clubKnownWrong : ChangeSpec := { name := "clubKnown", fn := fun _ => fun
  | [] => { results := [.lit (.bool false)], args := [] }
  | _ => none }
def ClubKnownWrongFalsely : Prop := clubKnownRow.holds Try.pinned (OpenSpec.ofChange clubKnownWrong)

/- THE SECOND FORM. 'bulk': how many values and letters a reading holds, each counted each time it is reached (what is shared counts as often as it is met; a slice's spare places count too). A statement '..UptoSaid' is the law's where the arguments, and the package variables that the reading takes, are together of bulk at most 1048576: NARROWER than '..Said'. Prove '..Said' where nothing that the law and all that it calls make is longer than what came in: it says more and counts as full. Else prove '..UptoSaid'. A law counts once. -/
mutual
def uptoBulk {H : Type} : DataW H → Nat
  | .lit (.string bytes) => bytes.length + 1
  | .lit _ => 1
  | .nil => 1
  | .ptr d => uptoBulk d + 1
  | .slice elems spare => uptoBulkAll elems + uptoBulkAll spare + 1
  | .agg parts => uptoBulkAll parts + 1
  | .iface _ d => uptoBulk d + 1
  | .map entries => uptoBulkEntries entries + 1
  | .held _ => 1
def uptoBulkAll {H : Type} : List (DataW H) → Nat
  | [] => 0
  | d :: r => uptoBulk d + uptoBulkAll r
def uptoBulkEntries {H : Type} : List (Lit × DataW H) → Nat
  | [] => 0
  | x :: r => uptoBulkEntry x + uptoBulkEntries r
def uptoBulkEntry {H : Type} : Lit × DataW H → Nat
  | (.string bytes, d) => bytes.length + uptoBulk d + 1
  | (_, d) => uptoBulk d + 1
 end
def uptoSmall : (H : Type) → List (DataW H) → Bool := fun _ ds => decide (uptoBulkAll ds ≤ 1048576)
def OpenSpec.upto (s : _root_.Go.ChangeSpec) : _root_.Go.OpenSpec := { _root_.Go.OpenSpec.ofChange s with cond := some uptoSmall }

/-- 'vitolalaw12.ClubCan', WHERE WHAT IT READS IS OF BULK AT MOST 1048576: true; the input reads as it did. -/
def clubCanUptoRow : OpenClaim := { program := "ytbimapbcpmeooaa", sum := "cff124241c5e6ef17546b3ada50873479056a74c885ef31d9193179304d2c316", func := "vitola/vitolalaw12.ClubCan", spec := "clubCan", unfollowed := true, recurses := true, plainKeys := false, apart := false, narrowed := true }
def ClubCanUptoSaid : Prop := clubCanUptoRow.holds Try.pinned (OpenSpec.upto clubCanSpec)

/-- 'vitolalaw12.ClubMakes', WHERE WHAT IT READS IS OF BULK AT MOST 1048576: true; the input reads as it did. -/
def clubMakesUptoRow : OpenClaim := { program := "ytbimapbcpmeooaa", sum := "cff124241c5e6ef17546b3ada50873479056a74c885ef31d9193179304d2c316", func := "vitola/vitolalaw12.ClubMakes", spec := "clubMakes", unfollowed := true, recurses := true, plainKeys := false, apart := false, narrowed := true }
def ClubMakesUptoSaid : Prop := clubMakesUptoRow.holds Try.pinned (OpenSpec.upto clubMakesSpec)

/-- 'vitolalaw12.ClubPlans', WHERE WHAT IT READS IS OF BULK AT MOST 1048576: true; the input reads as it did. -/
def clubPlansUptoRow : OpenClaim := { program := "ytbimapbcpmeooaa", sum := "cff124241c5e6ef17546b3ada50873479056a74c885ef31d9193179304d2c316", func := "vitola/vitolalaw12.ClubPlans", spec := "clubPlans", unfollowed := true, recurses := true, plainKeys := false, apart := false, narrowed := true }
def ClubPlansUptoSaid : Prop := clubPlansUptoRow.holds Try.pinned (OpenSpec.upto clubPlansSpec)

/-- 'vitolalaw12.ClubCrosses', WHERE WHAT IT READS IS OF BULK AT MOST 1048576: true; the input reads as it did. -/
def clubCrossesUptoRow : OpenClaim := { program := "ytbimapbcpmeooaa", sum := "cff124241c5e6ef17546b3ada50873479056a74c885ef31d9193179304d2c316", func := "vitola/vitolalaw12.ClubCrosses", spec := "clubCrosses", unfollowed := true, recurses := true, plainKeys := false, apart := false, narrowed := true }
def ClubCrossesUptoSaid : Prop := clubCrossesUptoRow.holds Try.pinned (OpenSpec.upto clubCrossesSpec)

/-- 'vitolalaw12.ClubGallai', WHERE WHAT IT READS IS OF BULK AT MOST 1048576: true; the input reads as it did. -/
def clubGallaiUptoRow : OpenClaim := { program := "ytbimapbcpmeooaa", sum := "cff124241c5e6ef17546b3ada50873479056a74c885ef31d9193179304d2c316", func := "vitola/vitolalaw12.ClubGallai", spec := "clubGallai", unfollowed := true, recurses := true, plainKeys := false, apart := false, narrowed := true }
def ClubGallaiUptoSaid : Prop := clubGallaiUptoRow.holds Try.pinned (OpenSpec.upto clubGallaiSpec)

/-- 'vitolalaw12.ClubListed', WHERE WHAT IT READS IS OF BULK AT MOST 1048576: true; the input reads as it did. -/
def clubListedUptoRow : OpenClaim := { program := "ytbimapbcpmeooaa", sum := "cff124241c5e6ef17546b3ada50873479056a74c885ef31d9193179304d2c316", func := "vitola/vitolalaw12.ClubListed", spec := "clubListed", unfollowed := true, recurses := true, plainKeys := false, apart := false, narrowed := true }
def ClubListedUptoSaid : Prop := clubListedUptoRow.holds Try.pinned (OpenSpec.upto clubListedSpec)

/-- 'vitolalaw12.ClubCrossed', WHERE WHAT IT READS IS OF BULK AT MOST 1048576: true; the input reads as it did. -/
def clubCrossedUptoRow : OpenClaim := { program := "ytbimapbcpmeooaa", sum := "cff124241c5e6ef17546b3ada50873479056a74c885ef31d9193179304d2c316", func := "vitola/vitolalaw12.ClubCrossed", spec := "clubCrossed", unfollowed := true, recurses := true, plainKeys := false, apart := false, narrowed := true }
def ClubCrossedUptoSaid : Prop := clubCrossedUptoRow.holds Try.pinned (OpenSpec.upto clubCrossedSpec)

/-- 'vitolalaw12.ClubGoodman', WHERE WHAT IT READS IS OF BULK AT MOST 1048576: true; the input reads as it did. -/
def clubGoodmanUptoRow : OpenClaim := { program := "ytbimapbcpmeooaa", sum := "cff124241c5e6ef17546b3ada50873479056a74c885ef31d9193179304d2c316", func := "vitola/vitolalaw12.ClubGoodman", spec := "clubGoodman", unfollowed := true, recurses := true, plainKeys := false, apart := false, narrowed := true }
def ClubGoodmanUptoSaid : Prop := clubGoodmanUptoRow.holds Try.pinned (OpenSpec.upto clubGoodmanSpec)

/-- 'vitolalaw12.ClubHavel', WHERE WHAT IT READS IS OF BULK AT MOST 1048576: true; the input reads as it did. -/
def clubHavelUptoRow : OpenClaim := { program := "ytbimapbcpmeooaa", sum := "cff124241c5e6ef17546b3ada50873479056a74c885ef31d9193179304d2c316", func := "vitola/vitolalaw12.ClubHavel", spec := "clubHavel", unfollowed := true, recurses := true, plainKeys := false, apart := false, narrowed := true }
def ClubHavelUptoSaid : Prop := clubHavelUptoRow.holds Try.pinned (OpenSpec.upto clubHavelSpec)

/-- 'vitolalaw12.ClubNamed', WHERE WHAT IT READS IS OF BULK AT MOST 1048576: true; the input reads as it did. -/
def clubNamedUptoRow : OpenClaim := { program := "ytbimapbcpmeooaa", sum := "cff124241c5e6ef17546b3ada50873479056a74c885ef31d9193179304d2c316", func := "vitola/vitolalaw12.ClubNamed", spec := "clubNamed", unfollowed := true, recurses := true, plainKeys := false, apart := false, narrowed := true }
def ClubNamedUptoSaid : Prop := clubNamedUptoRow.holds Try.pinned (OpenSpec.upto clubNamedSpec)

/-- 'vitolalaw12.ClubKnown', WHERE WHAT IT READS IS OF BULK AT MOST 1048576: true; the input reads as it did. -/
def clubKnownUptoRow : OpenClaim := { program := "ytbimapbcpmeooaa", sum := "cff124241c5e6ef17546b3ada50873479056a74c885ef31d9193179304d2c316", func := "vitola/vitolalaw12.ClubKnown", spec := "clubKnown", unfollowed := true, recurses := true, plainKeys := false, apart := false, narrowed := true }
def ClubKnownUptoSaid : Prop := clubKnownUptoRow.holds Try.pinned (OpenSpec.upto clubKnownSpec)

end Rows
end Go.Proofs.Ytbimapbcpmeooaa
