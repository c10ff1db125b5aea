/- Meet of flat divisions is flat, and the finer one has the coarser one of gaps. No conditions. -/
import Derived.Test.YtjaefngmidllgaaWFlat
import Derived.Test.YtjaefngmidllgaaBytes
import Derived.Test.YtjaefngmidllgaaRows
import Derived.Test.YtjaefngmidllgaaAxT
namespace Go.Proofs.Ytjaefngmidllgaa.storeFlat
open Go Go.Proofs.Ytjaefngmidllgaa.AX Go.ChangeShapes Go.WideShapes Go.ChangeAt Go.RowKit
set_option linter.unusedVariables false
theorem own : ownKnob Try.prog.godebug = none := by kernel_rfl
theorem walked (n0 : List Int) (e0 : n0.length = 19) (b0 : ∀ x ∈ n0, IntKind.u8.min ≤ x ∧ x ≤ IntKind.u8.max) (H : AH) : AC Try.prog 12 [.agg (n0.map (.int .u8))] H fun v _ => v = .bool true := by
  obtain ⟨s0, h0, l0, t0⟩ := St.bytes_of e0 b0
  rw [h0]
  exact St.flat_ac ⟨l0, t0⟩  H
set_option maxRecDepth 100000 in
theorem lifted (os : Os) (started : os.Started) (H : Type) (enc : TypeId × Value → H) :
    ReturnsInHanded {} Try.checked os 12 .any (Rows.storeFlatSpec.pre6 enc Try.prog Try.f12 Rows.storeFlatRow.domain false) (Rows.storeFlatSpec.post enc Try.prog Try.f12 false true false false) := by
  refine returnsInHanded_of_change (C := Try.checked) own started (by kernel_rfl) Try.func12
    (ChangeSpec.witness6 (enc := enc) (C := Try.checked) false ⟨#[], #[.agg #[.int .u8 0, .int .u8 0, .int .u8 0, .int .u8 0, .int .u8 0, .int .u8 0, .int .u8 0, .int .u8 0, .int .u8 0, .int .u8 0, .int .u8 0, .int .u8 0, .int .u8 0, .int .u8 0, .int .u8 0, .int .u8 0, .int .u8 0, .int .u8 0, .int .u8 0]], []⟩ 8 (by kernel_rfl) (by kernel_rfl) (by kernel_rfl) (by kernel_rfl)) ?_
  intro W base args ds gs before hval0 hW hcnd _
  have hval : ∀ (j : Nat) t v, Try.f12.params[j]? = some t → args[j]? = some v → Value.okWide Try.prog W .any base t v := hval0
  have hW' := hW
  obtain ⟨p, q, hA0, hV, rfl, hfz, hnd⟩ := hW
  have hA : DataW.TrodAll enc Try.prog W 0 (fun _ => true) true Try.f12.params.toList args.toList ds p := hA0
  have hA' := hA
  rw [Try.params12] at hA hval
  obtain ⟨v0, vs0, d0, ds0, p0, q0, hargs, rfl, rfl, g0, r0⟩ := trodAll_cons hA
  obtain ⟨rfl, rfl, rfl⟩ := trodAll_nil r0
  obtain rfl : args = #[v0] := by cases args; simp_all
  obtain ⟨rfl, rfl⟩ := trodVars_none hV
  simp only [List.append_nil] at hW' hA'
  obtain ⟨n0, rfl, e0, b0⟩ := agg_ints (P := Try.prog) (k := .u8) (n := 19) (t := 50) (ts := List.replicate 19 5) (by kernel_rfl) (by kernel_rfl) (by kernel_rfl) (by kernel_rfl) (hval 0 50 v0 rfl rfl)
  have S := sim0 (W := W) (bs := []) (by simp) (by simp)
  refine ((walked n0 e0 b0 _).law S (cargs := #[.agg (n0.map (Value.int .u8)).toArray]) (.cons (relV_agg _ _) .nil) (fun _ _ h => h)).mono ?_
  rintro e W' ⟨rfl, hg⟩
  exact ⟨_, rfl, law_post hg (by kernel_rfl) (by kernel_rfl) rfl rfl Try.underlying4 hW' hA' rfl rfl rfl⟩
theorem over : Rows.storeFlatRow.holds Try.pinned (OpenSpec.ofChange Rows.storeFlatSpec) :=
  OpenClaim.holds_of_wide 12 Try.f12 rfl rfl rfl rfl rfl rfl rfl ⟨rfl, rfl, rfl, rfl, rfl⟩ rfl rfl rfl rfl rfl (by kernel_rfl) Try.func12 (by kernel_rfl)
    (of_decide_eq_true (by kernel_rfl)) (by unfold Func.isWrapper; first | (rw [if_pos (by decide +kernel)]; kernel_rfl) | (rw [if_neg (by decide +kernel)]; exact ⟨rfl, rfl⟩))
    (fun os started H enc _ => lifted os started H enc)
/-- The statement. -/
theorem proved : Rows.StoreFlatSaid :=
  over
#print axioms proved
end Go.Proofs.Ytjaefngmidllgaa.storeFlat
