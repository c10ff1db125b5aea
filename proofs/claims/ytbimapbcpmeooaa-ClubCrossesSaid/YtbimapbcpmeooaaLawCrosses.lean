/- An exchange of two tables is as stated. No conditions. -/
import Derived.Test.YtbimapbcpmeooaaWCrosses
import Derived.Test.YtbimapbcpmeooaaPairs
import Derived.Test.YtbimapbcpmeooaaRows
import Derived.Test.YtbimapbcpmeooaaAxT
namespace Go.Proofs.Ytbimapbcpmeooaa.clubCrosses
open Go Go.Proofs.Ytbimapbcpmeooaa.AX Go.ChangeShapes Go.WideShapes Go.ChangeAt Go.RowKit
set_option linter.unusedVariables false
theorem own : ownKnob Try.prog.godebug = none := by kernel_rfl
set_option maxRecDepth 100000 in
theorem lifted (os : Os) (started : os.Started) (H : Type) (enc : TypeId × Value → H) :
    ReturnsInHanded {} Try.checked os 6 .any (Rows.clubCrossesSpec.pre6 enc Try.prog Try.f6 Rows.clubCrossesRow.domain false) (Rows.clubCrossesSpec.post enc Try.prog Try.f6 false true false false) := by
  refine returnsInHanded_of_change (C := Try.checked) own started (by kernel_rfl) Try.func6
    (ChangeSpec.witness6 (enc := enc) (C := Try.checked) false ⟨#[], #[.agg #[.int .i64 0, .slice none 0 0], .int .i64 0, .int .i64 0, .bool false], []⟩ 8 (by kernel_rfl) (by kernel_rfl) (by kernel_rfl) (by kernel_rfl)) ?_
  intro W base args ds gs before hval0 hW hcnd _
  have hval : ∀ (j : Nat) t v, Try.f6.params[j]? = some t → args[j]? = some v → Value.okWide Try.prog W .any base t v := hval0
  have hW' := hW
  obtain ⟨p, q, hA0, hV, rfl, hfz, hnd⟩ := hW
  have hA : DataW.TrodAll enc Try.prog W 0 (fun _ => true) true Try.f6.params.toList args.toList ds p := hA0
  have hA' := hA
  rw [Try.params6] at hA hval
  obtain ⟨v0, vs0, d0, ds0, p0, q0, hargs, rfl, rfl, g0, r0⟩ := trodAll_cons hA
  obtain ⟨v1, vs1, d1, ds1, p1, q1, rfl, rfl, rfl, g1, r1⟩ := trodAll_cons r0
  obtain ⟨v2, vs2, d2, ds2, p2, q2, rfl, rfl, rfl, g2, r2⟩ := trodAll_cons r1
  obtain ⟨v3, vs3, d3, ds3, p3, q3, rfl, rfl, rfl, g3, r3⟩ := trodAll_cons r2
  obtain ⟨rfl, rfl, rfl⟩ := trodAll_nil r3
  obtain rfl : args = #[v0, v1, v2, v3] := by cases args; simp_all
  obtain ⟨rfl, rfl⟩ := trodVars_none hV
  simp only [List.append_nil] at hW' hA'
  obtain ⟨s0, m0, l0, rfl, w0, c0⟩ := rec2p_came (P := Try.prog) (t := 34) (ts := 32) (te := 67) (ti := 3) (k := .i64) (by kernel_rfl) (by kernel_rfl) (by kernel_rfl) (by kernel_rfl) Try.underlying32 Try.underlying67 (by kernel_rfl) (by kernel_rfl) Try.underlying3 (hval 0 34 v0 rfl rfl) g0
  obtain ⟨a1, rfl, rfl, rfl, w1⟩ := open_int Try.underlying3 (hval 1 3 v1 rfl rfl) g1
  obtain ⟨a2, rfl, rfl, rfl, w2⟩ := open_int Try.underlying3 (hval 2 3 v2 rfl rfl) g2
  obtain ⟨a3, rfl, rfl, rfl⟩ := open_bool Try.underlying4 (hval 3 4 v3 rfl rfl) g3
  have S := sim0 (W := W) (bs := (blockOf s0)) (blockOf_nodup s0) c0.block
  obtain ⟨x0, y0, z0⟩ := c0.rs (bs := (blockOf s0)) (blockOf_nodup s0) (fun b h => h)
  have h0 : Rs 2 (H0 W (blockOf s0)) x0 (Cl.ti l0) := z0
  refine ((Cl.crosses_ac m0 l0 x0 a1 a2 a3 _ h0).law S (cargs := #[.agg #[.int .i64 m0, s0], .int .i64 a1, .int .i64 a2, .bool a3]) (.cons (.agg (.cons (.int _ _) (.cons y0 .nil))) (.cons (.int _ _) (.cons (.int _ _) (.cons (.bool _) .nil)))) (fun _ _ h => h)).mono ?_
  rintro e W' ⟨rfl, hg⟩
  exact ⟨_, rfl, law_post hg (by kernel_rfl) (by kernel_rfl) rfl rfl Try.underlying4 hW' hA' rfl rfl rfl⟩
theorem over : Rows.clubCrossesRow.holds Try.pinned (OpenSpec.ofChange Rows.clubCrossesSpec) :=
  OpenClaim.holds_of_wide 6 Try.f6 rfl rfl rfl rfl rfl rfl rfl ⟨rfl, rfl, rfl, rfl, rfl⟩ rfl rfl rfl rfl rfl (by kernel_rfl) Try.func6 (by kernel_rfl)
    (of_decide_eq_true (by kernel_rfl)) (by unfold Func.isWrapper; first | (rw [if_pos (by decide +kernel)]; kernel_rfl) | (rw [if_neg (by decide +kernel)]; exact ⟨rfl, rfl⟩))
    (fun os started H enc _ => lifted os started H enc)
/-- The statement. -/
theorem proved : Rows.ClubCrossesSaid :=
  over
#print axioms proved
end Go.Proofs.Ytbimapbcpmeooaa.clubCrosses
