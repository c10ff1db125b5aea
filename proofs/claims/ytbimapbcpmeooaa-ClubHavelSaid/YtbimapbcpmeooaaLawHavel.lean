/- If one sorter sits with those of the others who have the greatest counts, what is left can be just if all can. No conditions. -/
import Derived.Test.YtbimapbcpmeooaaWHavel
import Derived.Test.YtbimapbcpmeooaaBytes
import Derived.Test.YtbimapbcpmeooaaRows
import Derived.Test.YtbimapbcpmeooaaAxT
namespace Go.Proofs.Ytbimapbcpmeooaa.clubHavel
open Go Go.Proofs.Ytbimapbcpmeooaa.AX Go.ChangeShapes Go.WideShapes Go.ChangeAt Go.RowKit
set_option linter.unusedVariables false
theorem own : ownKnob Try.prog.godebug = none := by kernel_rfl
theorem walked (n0 : List Int) (e0 : n0.length = 8) (b0 : ∀ x ∈ n0, IntKind.u8.min ≤ x ∧ x ≤ IntKind.u8.max) (a1 : Int) (w1 : (Lit.int .u8 a1).wf = true) (a2 : Int) (w2 : (Lit.int .u8 a2).wf = true) (H : AH) : AC Try.prog 11 [.agg (n0.map (.int .u8)), .int .u8 a1, .int .u8 a2] H fun v _ => v = .bool true := by
  obtain ⟨s0, h0, l0, t0⟩ := Cl.bytes_of e0 b0
  rw [h0]
  obtain ⟨x1, rfl, h1⟩ := Cl.u8_of w1
  obtain ⟨x2, rfl, h2⟩ := Cl.u8_of w2
  exact Cl.havel_ac s0 l0 t0 x1 x2 h1 h2 H
set_option maxRecDepth 100000 in
theorem lifted (os : Os) (started : os.Started) (H : Type) (enc : TypeId × Value → H) :
    ReturnsInHanded {} Try.checked os 11 .any (Rows.clubHavelSpec.pre6 enc Try.prog Try.f11 Rows.clubHavelRow.domain false) (Rows.clubHavelSpec.post enc Try.prog Try.f11 false true false false) := by
  refine returnsInHanded_of_change (C := Try.checked) own started (by kernel_rfl) Try.func11
    (ChangeSpec.witness6 (enc := enc) (C := Try.checked) false ⟨#[], #[.agg #[.int .u8 0, .int .u8 0, .int .u8 0, .int .u8 0, .int .u8 0, .int .u8 0, .int .u8 0, .int .u8 0], .int .u8 0, .int .u8 0], []⟩ 8 (by kernel_rfl) (by kernel_rfl) (by kernel_rfl) (by kernel_rfl)) ?_
  intro W base args ds gs before hval0 hW hcnd _
  have hval : ∀ (j : Nat) t v, Try.f11.params[j]? = some t → args[j]? = some v → Value.okWide Try.prog W .any base t v := hval0
  have hW' := hW
  obtain ⟨p, q, hA0, hV, rfl, hfz, hnd⟩ := hW
  have hA : DataW.TrodAll enc Try.prog W 0 (fun _ => true) true Try.f11.params.toList args.toList ds p := hA0
  have hA' := hA
  rw [Try.params11] at hA hval
  obtain ⟨v0, vs0, d0, ds0, p0, q0, hargs, rfl, rfl, g0, r0⟩ := trodAll_cons hA
  obtain ⟨v1, vs1, d1, ds1, p1, q1, rfl, rfl, rfl, g1, r1⟩ := trodAll_cons r0
  obtain ⟨v2, vs2, d2, ds2, p2, q2, rfl, rfl, rfl, g2, r2⟩ := trodAll_cons r1
  obtain ⟨rfl, rfl, rfl⟩ := trodAll_nil r2
  obtain rfl : args = #[v0, v1, v2] := by cases args; simp_all
  obtain ⟨rfl, rfl⟩ := trodVars_none hV
  simp only [List.append_nil] at hW' hA'
  obtain ⟨n0, rfl, e0, b0⟩ := agg_ints (P := Try.prog) (k := .u8) (n := 8) (t := 77) (ts := List.replicate 8 5) (by kernel_rfl) (by kernel_rfl) (by kernel_rfl) (by kernel_rfl) (hval 0 77 v0 rfl rfl)
  obtain ⟨a1, rfl, rfl, rfl, w1⟩ := open_int Try.underlying5 (hval 1 5 v1 rfl rfl) g1
  obtain ⟨a2, rfl, rfl, rfl, w2⟩ := open_int Try.underlying5 (hval 2 5 v2 rfl rfl) g2
  have S := sim0 (W := W) (bs := []) (by simp) (by simp)
  refine ((walked n0 e0 b0 a1 w1 a2 w2 _).law S (cargs := #[.agg (n0.map (Value.int .u8)).toArray, .int .u8 a1, .int .u8 a2]) (.cons (relV_agg _ _) (.cons (.int _ _) (.cons (.int _ _) .nil))) (fun _ _ h => h)).mono ?_
  rintro e W' ⟨rfl, hg⟩
  exact ⟨_, rfl, law_post hg (by kernel_rfl) (by kernel_rfl) rfl rfl Try.underlying4 hW' hA' rfl rfl rfl⟩
theorem over : Rows.clubHavelRow.holds Try.pinned (OpenSpec.ofChange Rows.clubHavelSpec) :=
  OpenClaim.holds_of_wide 11 Try.f11 rfl rfl rfl rfl rfl rfl rfl ⟨rfl, rfl, rfl, rfl, rfl⟩ rfl rfl rfl rfl rfl (by kernel_rfl) Try.func11 (by kernel_rfl)
    (of_decide_eq_true (by kernel_rfl)) (by unfold Func.isWrapper; first | (rw [if_pos (by decide +kernel)]; kernel_rfl) | (rw [if_neg (by decide +kernel)]; exact ⟨rfl, rfl⟩))
    (fun os started H enc _ => lifted os started H enc)
/-- The statement. -/
theorem proved : Rows.ClubHavelSaid :=
  over
#print axioms proved
end Go.Proofs.Ytbimapbcpmeooaa.clubHavel
