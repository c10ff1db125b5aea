/- DockTurns returns true for all bays and places, and leaves what was there as it was. No conditions. -/
import Derived.Test.YtojblooaiojmcaaTurning
import Derived.Test.YtojblooaiojmcaaRows
import Derived.Test.YtojblooaiojmcaaAxT
namespace Go.Proofs.Ytojblooaiojmcaa.dockTurns
open Go Go.Proofs.Ytojblooaiojmcaa.AX Go.ChangeShapes Go.WideShapes Go.ChangeAt Go.RowKit
set_option linter.unusedVariables false
theorem own : ownKnob Try.prog.godebug = none := by kernel_rfl
set_option maxRecDepth 100000 in
theorem lifted (os : Os) (started : os.Started) (H : Type) (enc : TypeId × Value → H) :
    ReturnsInHanded {} Try.checked os 6 .any (Rows.dockTurnsSpec.pre6 enc Try.prog Try.f6 Rows.dockTurnsRow.domain false) (Rows.dockTurnsSpec.post enc Try.prog Try.f6 false true false false) := by
  refine returnsInHanded_of_change (C := Try.checked) own started (by kernel_rfl) Try.func6
    (ChangeSpec.witness6 (enc := enc) (C := Try.checked) false ⟨#[], #[.int .i64 0, .slice none 0 0], []⟩ 8 (by kernel_rfl) (by kernel_rfl) (by kernel_rfl) (by kernel_rfl)) ?_
  intro W base args ds gs before hval0 hW hcnd _
  have hval : ∀ (j : Nat) t v, Try.f6.params[j]? = some t → args[j]? = some v → Value.okWide Try.prog W .any base t v := hval0
  have hW' := hW
  obtain ⟨p, q, hA0, hV, rfl, hfz, hnd⟩ := hW
  have hA : DataW.TrodAll enc Try.prog W 0 (fun _ => true) true Try.f6.params.toList args.toList ds p := hA0
  have hA' := hA
  rw [Try.params6] at hA hval
  obtain ⟨v0, vs0, d0, ds0, p0, q0, hargs, rfl, rfl, g0, r0⟩ := trodAll_cons hA
  obtain ⟨v1, vs1, d1, ds1, p1, q1, rfl, rfl, rfl, g1, r1⟩ := trodAll_cons r0
  obtain ⟨rfl, rfl, rfl⟩ := trodAll_nil r1
  obtain rfl : args = #[v0, v1] := by cases args; simp_all
  obtain ⟨rfl, rfl⟩ := trodVars_none hV
  simp only [List.append_nil] at hW' hA'
  obtain ⟨a0, rfl, rfl, rfl, w0⟩ := open_int Try.underlying3 (hval 0 3 v0 rfl rfl) g0
  obtain ⟨l1, c1⟩ := came (P := Try.prog) Try.underlying22 Try.underlying3 (by kernel_rfl) (hval 1 22 v1 rfl rfl) g1
  have S := sim0 (W := W) (bs := (blockOf v1)) (blockOf_nodup v1) c1.block
  obtain ⟨x1, y1, z1⟩ := c1.ls (bs := (blockOf v1)) (blockOf_nodup v1) (fun b h => h)
  have h1 : Ls (H0 W (blockOf v1)) x1 l1 := z1
  refine ((dockTurns_ac a0 x1 l1 _ h1).law S (cargs := #[.int .i64 a0, v1]) (.cons (.int _ _) (.cons y1 .nil)) (fun _ _ h => h)).mono ?_
  rintro e W' ⟨rfl, hg⟩
  exact ⟨_, rfl, law_post hg (by kernel_rfl) (by kernel_rfl) rfl rfl Try.underlying4 hW' hA' rfl rfl rfl⟩
theorem over : Rows.dockTurnsRow.holds Try.pinned (OpenSpec.ofChange Rows.dockTurnsSpec) :=
  OpenClaim.holds_of_wide 6 Try.f6 rfl rfl rfl rfl rfl rfl rfl ⟨rfl, rfl, rfl, rfl, rfl⟩ rfl rfl rfl rfl rfl (by kernel_rfl) Try.func6 (by kernel_rfl)
    (of_decide_eq_true (by kernel_rfl)) (by unfold Func.isWrapper; first | (rw [if_pos (by decide +kernel)]; kernel_rfl) | (rw [if_neg (by decide +kernel)]; exact ⟨rfl, rfl⟩))
    (fun os started H enc _ => lifted os started H enc)
/-- The statement. -/
theorem proved : Rows.DockTurnsSaid :=
  over
#print axioms proved
end Go.Proofs.Ytojblooaiojmcaa.dockTurns
