/- BondNamed returns true for all seals and orders, and leaves what was there as it was. No conditions. -/
import Derived.Test.YtcidcihpkdoejaaWNamed
import Derived.Test.YtcidcihpkdoejaaBytes
import Derived.Test.YtcidcihpkdoejaaRows
import Derived.Test.YtcidcihpkdoejaaAxT
namespace Go.Proofs.Ytcidcihpkdoejaa.bondNamed
open Go Go.Proofs.Ytcidcihpkdoejaa.AX Go.ChangeShapes Go.WideShapes Go.ChangeAt Go.RowKit
set_option linter.unusedVariables false
theorem own : ownKnob Try.prog.godebug = none := by kernel_rfl
theorem walked (n0 : List Int) (e0 : n0.length = 10) (b0 : ∀ x ∈ n0, IntKind.u8.min ≤ x ∧ x ≤ IntKind.u8.max) (n1 : List Int) (e1 : n1.length = 6) (b1 : ∀ x ∈ n1, IntKind.u8.min ≤ x ∧ x ≤ IntKind.u8.max) (H : AH) : AC Try.prog 12 [.agg (n0.map (.int .u8)), .agg (n1.map (.int .u8))] H fun v _ => v = .bool true := by
  obtain ⟨s0, h0, l0, t0⟩ := Bo.bytes_of e0 b0
  rw [h0]
  obtain ⟨s1, h1, l1, t1⟩ := Bo.bytes_of e1 b1
  rw [h1]
  exact Bo.named_ac ⟨l0, t0⟩ s1 l1 t1 H
set_option maxRecDepth 100000 in
theorem lifted (os : Os) (started : os.Started) (H : Type) (enc : TypeId × Value → H) :
    ReturnsInHanded {} Try.checked os 12 .any (Rows.bondNamedSpec.pre6 enc Try.prog Try.f12 Rows.bondNamedRow.domain false) (Rows.bondNamedSpec.post enc Try.prog Try.f12 false true false false) := by
  refine returnsInHanded_of_change (C := Try.checked) own started (by kernel_rfl) Try.func12
    (ChangeSpec.witness6 (enc := enc) (C := Try.checked) false ⟨#[], #[.agg #[.int .u8 0, .int .u8 0, .int .u8 0, .int .u8 0, .int .u8 0, .int .u8 0, .int .u8 0, .int .u8 0, .int .u8 0, .int .u8 0], .agg #[.int .u8 0, .int .u8 0, .int .u8 0, .int .u8 0, .int .u8 0, .int .u8 0]], []⟩ 8 (by kernel_rfl) (by kernel_rfl) (by kernel_rfl) (by kernel_rfl)) ?_
  intro W base args ds gs before hval0 hW hcnd _
  have hval : ∀ (j : Nat) t v, Try.f12.params[j]? = some t → args[j]? = some v → Value.okWide Try.prog W .any base t v := hval0
  have hW' := hW
  obtain ⟨p, q, hA0, hV, rfl, hfz, hnd⟩ := hW
  have hA : DataW.TrodAll enc Try.prog W 0 (fun _ => true) true Try.f12.params.toList args.toList ds p := hA0
  have hA' := hA
  rw [Try.params12] at hA hval
  obtain ⟨v0, vs0, d0, ds0, p0, q0, hargs, rfl, rfl, g0, r0⟩ := trodAll_cons hA
  obtain ⟨v1, vs1, d1, ds1, p1, q1, rfl, rfl, rfl, g1, r1⟩ := trodAll_cons r0
  obtain ⟨rfl, rfl, rfl⟩ := trodAll_nil r1
  obtain rfl : args = #[v0, v1] := by cases args; simp_all
  obtain ⟨rfl, rfl⟩ := trodVars_none hV
  simp only [List.append_nil] at hW' hA'
  obtain ⟨n0, rfl, e0, b0⟩ := agg_ints (P := Try.prog) (k := .u8) (n := 10) (t := 68) (ts := List.replicate 10 5) (by kernel_rfl) (by kernel_rfl) (by kernel_rfl) (by kernel_rfl) (hval 0 68 v0 rfl rfl)
  obtain ⟨n1, rfl, e1, b1⟩ := agg_ints (P := Try.prog) (k := .u8) (n := 6) (t := 86) (ts := List.replicate 6 5) (by kernel_rfl) (by kernel_rfl) (by kernel_rfl) (by kernel_rfl) (hval 1 86 v1 rfl rfl)
  have S := sim0 (W := W) (bs := []) (by simp) (by simp)
  refine ((walked n0 e0 b0 n1 e1 b1 _).law S (cargs := #[.agg (n0.map (Value.int .u8)).toArray, .agg (n1.map (Value.int .u8)).toArray]) (.cons (relV_agg _ _) (.cons (relV_agg _ _) .nil)) (fun _ _ h => h)).mono ?_
  rintro e W' ⟨rfl, hg⟩
  exact ⟨_, rfl, law_post hg (by kernel_rfl) (by kernel_rfl) rfl rfl Try.underlying4 hW' hA' rfl rfl rfl⟩
theorem over : Rows.bondNamedRow.holds Try.pinned (OpenSpec.ofChange Rows.bondNamedSpec) :=
  OpenClaim.holds_of_wide 12 Try.f12 rfl rfl rfl rfl rfl rfl rfl ⟨rfl, rfl, rfl, rfl, rfl⟩ rfl rfl rfl rfl rfl (by kernel_rfl) Try.func12 (by kernel_rfl)
    (of_decide_eq_true (by kernel_rfl)) (by unfold Func.isWrapper; first | (rw [if_pos (by decide +kernel)]; kernel_rfl) | (rw [if_neg (by decide +kernel)]; exact ⟨rfl, rfl⟩))
    (fun os started H enc _ => lifted os started H enc)
/-- The statement. -/
theorem proved : Rows.BondNamedSaid :=
  over
#print axioms proved
end Go.Proofs.Ytcidcihpkdoejaa.bondNamed
