/- Flat divisions and those of their gaps are one for one, with one room more than boxes. No conditions. -/
import Derived.Test.YtjaefngmidllgaaWKrew
import Derived.Test.YtjaefngmidllgaaBytes
import Derived.Test.YtjaefngmidllgaaRows
import Derived.Test.YtjaefngmidllgaaAxT
namespace Go.Proofs.Ytjaefngmidllgaa.storeKreweras
open Go Go.Proofs.Ytjaefngmidllgaa.AX Go.ChangeShapes Go.WideShapes Go.ChangeAt Go.RowKit
set_option linter.unusedVariables false
theorem own : ownKnob Try.prog.godebug = none := by kernel_rfl
theorem walked (a0 : Int) (w0 : (Lit.int .u8 a0).wf = true) (H : AH) : AC Try.prog 6 [.int .u8 a0] H fun v _ => v = .bool true := by
  obtain ⟨x0, rfl, h0⟩ := St.u8_of w0
  exact St.kreweras_ac x0 h0 H
set_option maxRecDepth 100000 in
theorem lifted (os : Os) (started : os.Started) (H : Type) (enc : TypeId × Value → H) :
    ReturnsInHanded {} Try.checked os 6 .any (Rows.storeKrewerasSpec.pre6 enc Try.prog Try.f6 Rows.storeKrewerasRow.domain false) (Rows.storeKrewerasSpec.post enc Try.prog Try.f6 false true false false) := by
  refine returnsInHanded_of_change (C := Try.checked) own started (by kernel_rfl) Try.func6
    (ChangeSpec.witness6 (enc := enc) (C := Try.checked) false ⟨#[], #[.int .u8 0], []⟩ 8 (by kernel_rfl) (by kernel_rfl) (by kernel_rfl) (by kernel_rfl)) ?_
  intro W base args ds gs before hval0 hW hcnd _
  have hval : ∀ (j : Nat) t v, Try.f6.params[j]? = some t → args[j]? = some v → Value.okWide Try.prog W .any base t v := hval0
  have hW' := hW
  obtain ⟨p, q, hA0, hV, rfl, hfz, hnd⟩ := hW
  have hA : DataW.TrodAll enc Try.prog W 0 (fun _ => true) true Try.f6.params.toList args.toList ds p := hA0
  have hA' := hA
  rw [Try.params6] at hA hval
  obtain ⟨v0, vs0, d0, ds0, p0, q0, hargs, rfl, rfl, g0, r0⟩ := trodAll_cons hA
  obtain ⟨rfl, rfl, rfl⟩ := trodAll_nil r0
  obtain rfl : args = #[v0] := by cases args; simp_all
  obtain ⟨rfl, rfl⟩ := trodVars_none hV
  simp only [List.append_nil] at hW' hA'
  obtain ⟨a0, rfl, rfl, rfl, w0⟩ := open_int Try.underlying5 (hval 0 5 v0 rfl rfl) g0
  have S := sim0 (W := W) (bs := []) (by simp) (by simp)
  refine ((walked a0 w0 _).law S (cargs := #[.int .u8 a0]) (.cons (.int _ _) .nil) (fun _ _ h => h)).mono ?_
  rintro e W' ⟨rfl, hg⟩
  exact ⟨_, rfl, law_post hg (by kernel_rfl) (by kernel_rfl) rfl rfl Try.underlying4 hW' hA' rfl rfl rfl⟩
theorem over : Rows.storeKrewerasRow.holds Try.pinned (OpenSpec.ofChange Rows.storeKrewerasSpec) :=
  OpenClaim.holds_of_wide 6 Try.f6 rfl rfl rfl rfl rfl rfl rfl ⟨rfl, rfl, rfl, rfl, rfl⟩ rfl rfl rfl rfl rfl (by kernel_rfl) Try.func6 (by kernel_rfl)
    (of_decide_eq_true (by kernel_rfl)) (by unfold Func.isWrapper; first | (rw [if_pos (by decide +kernel)]; kernel_rfl) | (rw [if_neg (by decide +kernel)]; exact ⟨rfl, rfl⟩))
    (fun os started H enc _ => lifted os started H enc)
/-- The statement. -/
theorem proved : Rows.StoreKrewerasSaid :=
  over
#print axioms proved
end Go.Proofs.Ytjaefngmidllgaa.storeKreweras
