/- BondPlans returns true for each plan and each group, and leaves what was there as it was. No conditions. -/
import Derived.Test.YtcidcihpkdoejaaWPlans
import Derived.Test.YtcidcihpkdoejaaRec2
import Derived.Test.YtcidcihpkdoejaaRows
import Derived.Test.YtcidcihpkdoejaaAxT
namespace Go.Proofs.Ytcidcihpkdoejaa.bondPlans
open Go Go.Proofs.Ytcidcihpkdoejaa.AX Go.ChangeShapes Go.WideShapes Go.ChangeAt Go.RowKit
set_option linter.unusedVariables false
theorem own : ownKnob Try.prog.godebug = none := by kernel_rfl
set_option maxRecDepth 100000 in
theorem lifted (os : Os) (started : os.Started) (H : Type) (enc : TypeId × Value → H) :
    ReturnsInHanded {} Try.checked os 4 .any (Rows.bondPlansSpec.pre6 enc Try.prog Try.f4 Rows.bondPlansRow.domain false) (Rows.bondPlansSpec.post enc Try.prog Try.f4 false true false false) := by
  refine returnsInHanded_of_change (C := Try.checked) own started (by kernel_rfl) Try.func4
    (ChangeSpec.witness6 (enc := enc) (C := Try.checked) false ⟨#[], #[.agg #[.int .i64 0, .slice none 0 0], .int .i64 0], []⟩ 8 (by kernel_rfl) (by kernel_rfl) (by kernel_rfl) (by kernel_rfl)) ?_
  intro W base args ds gs before hval0 hW hcnd _
  have hval : ∀ (j : Nat) t v, Try.f4.params[j]? = some t → args[j]? = some v → Value.okWide Try.prog W .any base t v := hval0
  have hW' := hW
  obtain ⟨p, q, hA0, hV, rfl, hfz, hnd⟩ := hW
  have hA : DataW.TrodAll enc Try.prog W 0 (fun _ => true) true Try.f4.params.toList args.toList ds p := hA0
  have hA' := hA
  rw [Try.params4] at hA hval
  obtain ⟨v0, vs0, d0, ds0, p0, q0, hargs, rfl, rfl, g0, r0⟩ := trodAll_cons hA
  obtain ⟨v1, vs1, d1, ds1, p1, q1, rfl, rfl, rfl, g1, r1⟩ := trodAll_cons r0
  obtain ⟨rfl, rfl, rfl⟩ := trodAll_nil r1
  obtain rfl : args = #[v0, v1] := by cases args; simp_all
  obtain ⟨rfl, rfl⟩ := trodVars_none hV
  simp only [List.append_nil] at hW' hA'
  obtain ⟨s0, m0, l0, rfl, w0, c0⟩ := rec2_came (P := Try.prog) (t := 40) (ts := 22) (te := 3) (ti := 3) (k := .i64) (by kernel_rfl) (by kernel_rfl) (by kernel_rfl) (by kernel_rfl) Try.underlying22 Try.underlying3 (by kernel_rfl) Try.underlying3 (hval 0 40 v0 rfl rfl) g0
  obtain ⟨a1, rfl, rfl, rfl, w1⟩ := open_int Try.underlying3 (hval 1 3 v1 rfl rfl) g1
  have S := sim0 (W := W) (bs := (blockOf s0)) (blockOf_nodup s0) c0.block
  obtain ⟨x0, y0, z0⟩ := c0.ls (bs := (blockOf s0)) (blockOf_nodup s0) (fun b h => h)
  have h0 : Ls (H0 W (blockOf s0)) x0 l0 := z0
  refine ((Bo.law4_ac m0 l0 x0 a1 _ h0).law S (cargs := #[.agg #[.int .i64 m0, s0], .int .i64 a1]) (.cons (.agg (.cons (.int _ _) (.cons y0 .nil))) (.cons (.int _ _) .nil)) (fun _ _ h => h)).mono ?_
  rintro e W' ⟨rfl, hg⟩
  exact ⟨_, rfl, law_post hg (by kernel_rfl) (by kernel_rfl) rfl rfl Try.underlying4 hW' hA' rfl rfl rfl⟩
theorem over : Rows.bondPlansRow.holds Try.pinned (OpenSpec.ofChange Rows.bondPlansSpec) :=
  OpenClaim.holds_of_wide 4 Try.f4 rfl rfl rfl rfl rfl rfl rfl ⟨rfl, rfl, rfl, rfl, rfl⟩ rfl rfl rfl rfl rfl (by kernel_rfl) Try.func4 (by kernel_rfl)
    (of_decide_eq_true (by kernel_rfl)) (by unfold Func.isWrapper; first | (rw [if_pos (by decide +kernel)]; kernel_rfl) | (rw [if_neg (by decide +kernel)]; exact ⟨rfl, rfl⟩))
    (fun os started H enc _ => lifted os started H enc)
/-- The statement. -/
theorem proved : Rows.BondPlansSaid :=
  over
#print axioms proved
end Go.Proofs.Ytcidcihpkdoejaa.bondPlans
