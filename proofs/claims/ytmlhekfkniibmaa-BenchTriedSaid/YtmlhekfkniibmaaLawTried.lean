/- BenchTried returns true, and leaves what was there as it was. No conditions. -/
import Derived.Test.YtmlhekfkniibmaaJ3d5b
import Derived.Test.YtmlhekfkniibmaaRows
import Derived.Test.YtmlhekfkniibmaaAxT
namespace Go.Proofs.Ytmlhekfkniibmaa.benchTried
open Go Go.Proofs.Ytmlhekfkniibmaa.AX Go.ChangeShapes Go.WideShapes Go.ChangeAt Go.RowKit
set_option linter.unusedVariables false
theorem own : ownKnob Try.prog.godebug = none := by kernel_rfl
set_option maxRecDepth 100000 in
theorem lifted (os : Os) (started : os.Started) (H : Type) (enc : TypeId × Value → H) :
    ReturnsInHanded {} Try.checked os 6 .any (Rows.benchTriedSpec.pre6 enc Try.prog Try.f6 Rows.benchTriedRow.domain false) (Rows.benchTriedSpec.post enc Try.prog Try.f6 false true false false) := by
  refine returnsInHanded_of_change (C := Try.checked) own started (by kernel_rfl) Try.func6
    (ChangeSpec.witness6 (enc := enc) (C := Try.checked) false ⟨#[], #[.int .i64 0, .int .i64 0, .slice none 0 0], []⟩ 8 (by kernel_rfl) (by kernel_rfl) (by kernel_rfl) (by kernel_rfl)) ?_
  intro W base args ds gs before hval0 hW hcnd _
  have hval : ∀ (j : Nat) t v, Try.f6.params[j]? = some t → args[j]? = some v → Value.okWide Try.prog W .any base t v := hval0
  have hW' := hW
  obtain ⟨p, q, hA0, hV, rfl, hfz, hnd⟩ := hW
  have hA : DataW.TrodAll enc Try.prog W 0 (fun _ => true) true Try.f6.params.toList args.toList ds p := hA0
  have hA' := hA
  rw [Try.params6] at hA hval
  obtain ⟨v0, vs0, d0, ds0, p0, q0, hargs, rfl, rfl, g0, r0⟩ := trodAll_cons hA
  obtain ⟨v1, vs1, d1, ds1, p1, q1, rfl, rfl, rfl, g1, r1⟩ := trodAll_cons r0
  obtain ⟨v2, vs2, d2, ds2, p2, q2, rfl, rfl, rfl, g2, r2⟩ := trodAll_cons r1
  obtain ⟨rfl, rfl, rfl⟩ := trodAll_nil r2
  obtain rfl : args = #[v0, v1, v2] := by cases args; simp_all
  obtain ⟨rfl, rfl⟩ := trodVars_none hV
  simp only [List.append_nil] at hW' hA'
  obtain ⟨a0, rfl, rfl, rfl, w0⟩ := open_int Try.underlying3 (hval 0 3 v0 rfl rfl) g0
  obtain ⟨a1, rfl, rfl, rfl, w1⟩ := open_int Try.underlying3 (hval 1 3 v1 rfl rfl) g1
  obtain ⟨l2, c2⟩ := came (P := Try.prog) Try.underlying22 Try.underlying3 (by kernel_rfl) (hval 2 22 v2 rfl rfl) g2
  have S := sim0 (W := W) (bs := (blockOf v2)) (blockOf_nodup v2) c2.block
  obtain ⟨x2, y2, z2⟩ := c2.ls (bs := (blockOf v2)) (blockOf_nodup v2) (fun b h => h)
  have h2 : Ls (H0 W (blockOf v2)) x2 l2 := z2
  refine ((benchTried_ac a0 a1 x2 l2 _ h2).law S (cargs := #[.int .i64 a0, .int .i64 a1, v2]) (.cons (.int _ _) (.cons (.int _ _) (.cons y2 .nil))) (fun _ _ h => h)).mono ?_
  rintro e W' ⟨rfl, hg⟩
  exact ⟨_, rfl, law_post hg (by kernel_rfl) (by kernel_rfl) rfl rfl Try.underlying4 hW' hA' rfl rfl rfl⟩
theorem over : Rows.benchTriedRow.holds Try.pinned (OpenSpec.ofChange Rows.benchTriedSpec) :=
  OpenClaim.holds_of_wide 6 Try.f6 rfl rfl rfl rfl rfl rfl rfl ⟨rfl, rfl, rfl, rfl, rfl⟩ rfl rfl rfl rfl rfl (by kernel_rfl) Try.func6 (by kernel_rfl)
    (of_decide_eq_true (by kernel_rfl)) (by unfold Func.isWrapper; first | (rw [if_pos (by decide +kernel)]; kernel_rfl) | (rw [if_neg (by decide +kernel)]; exact ⟨rfl, rfl⟩))
    (fun os started H enc _ => lifted os started H enc)
/-- The statement. -/
theorem proved : Rows.BenchTriedSaid :=
  over
#print axioms proved
end Go.Proofs.Ytmlhekfkniibmaa.benchTried
