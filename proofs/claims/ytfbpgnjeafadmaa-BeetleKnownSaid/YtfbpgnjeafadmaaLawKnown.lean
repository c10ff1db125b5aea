/- The examples of the chapter on beetles hold. -/
import Derived.Test.YtfbpgnjeafadmaaJa89b
import Derived.Test.YtfbpgnjeafadmaaRows
import Derived.Test.YtfbpgnjeafadmaaAxT
namespace Go.Proofs.Ytfbpgnjeafadmaa.beetleKnown
open Go Go.Proofs.Ytfbpgnjeafadmaa.AX Go.ChangeShapes Go.WideShapes Go.ChangeAt Go.RowKit
set_option linter.unusedVariables false
theorem own : ownKnob Try.prog.godebug = none := by kernel_rfl
set_option maxRecDepth 100000 in
theorem lifted (os : Os) (started : os.Started) (H : Type) (enc : TypeId × Value → H) :
    ReturnsInHanded {} Try.checked os 15 .any (Rows.beetleKnownSpec.pre6 enc Try.prog Try.f15 Rows.beetleKnownRow.domain false) (Rows.beetleKnownSpec.post enc Try.prog Try.f15 false true false false) := by
  refine returnsInHanded_of_change (C := Try.checked) own started (by kernel_rfl) Try.func15
    (ChangeSpec.witness6 (enc := enc) (C := Try.checked) false ⟨#[], #[], []⟩ 8 (by kernel_rfl) (by kernel_rfl) (by kernel_rfl) (by kernel_rfl)) ?_
  intro W base args ds gs before hval0 hW hcnd _
  have hval : ∀ (j : Nat) t v, Try.f15.params[j]? = some t → args[j]? = some v → Value.okWide Try.prog W .any base t v := hval0
  have hW' := hW
  obtain ⟨p, q, hA0, hV, rfl, hfz, hnd⟩ := hW
  have hA : DataW.TrodAll enc Try.prog W 0 (fun _ => true) true Try.f15.params.toList args.toList ds p := hA0
  have hA' := hA
  rw [Try.params15] at hA hval
  obtain ⟨rfl, rfl, rfl⟩ := trodAll_none hA
  obtain ⟨rfl, rfl⟩ := trodVars_none hV
  simp only [List.append_nil] at hW' hA'
  have S := sim0 (W := W) (bs := []) (by simp) (by simp)
  refine ((Fl.known_ac _).law S (cargs := #[]) .nil (fun _ _ h => h)).mono ?_
  rintro e W' ⟨rfl, hg⟩
  exact ⟨_, rfl, law_post hg (by kernel_rfl) (by kernel_rfl) rfl rfl Try.underlying4 hW' hA' rfl rfl rfl⟩
theorem over : Rows.beetleKnownRow.holds Try.pinned (OpenSpec.ofChange Rows.beetleKnownSpec) :=
  OpenClaim.holds_of_wide 15 Try.f15 rfl rfl rfl rfl rfl rfl rfl ⟨rfl, rfl, rfl, rfl, rfl⟩ rfl rfl rfl rfl rfl (by kernel_rfl) Try.func15 (by kernel_rfl)
    (of_decide_eq_true (by kernel_rfl)) (by unfold Func.isWrapper; first | (rw [if_pos (by decide +kernel)]; kernel_rfl) | (rw [if_neg (by decide +kernel)]; exact ⟨rfl, rfl⟩))
    (fun os started H enc _ => lifted os started H enc)
/-- The statement. -/
theorem proved : Rows.BeetleKnownSaid :=
  over
#print axioms proved
end Go.Proofs.Ytfbpgnjeafadmaa.beetleKnown
