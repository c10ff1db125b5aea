/- BlendNearest returns true, and leaves what was there as it was. No conditions. -/
import Derived.Test.YtmoifofihafgmaaJ09cb
import Derived.Test.YtmoifofihafgmaaRows
import Derived.Test.YtmoifofihafgmaaAxT
namespace Go.Proofs.Ytmoifofihafgmaa.blendNearest
open Go Go.Proofs.Ytmoifofihafgmaa.AX Go.ChangeShapes Go.WideShapes Go.ChangeAt Go.RowKit
set_option linter.unusedVariables false
theorem own : ownKnob Try.prog.godebug = none := by kernel_rfl
set_option maxRecDepth 100000 in
theorem lifted (os : Os) (started : os.Started) (H : Type) (enc : TypeId × Value → H) :
    ReturnsInHanded {} Try.checked os 6 .any (Rows.blendNearestSpec.pre6 enc Try.prog Try.f6 Rows.blendNearestRow.domain false) (Rows.blendNearestSpec.post enc Try.prog Try.f6 false true false false) := by
  refine returnsInHanded_of_change (C := Try.checked) own started (by kernel_rfl) Try.func6
    (ChangeSpec.witness6 (enc := enc) (C := Try.checked) false ⟨#[], #[.agg #[.slice none 0 0, .int .i64 0, .int .i64 0], .slice none 0 0, .int .i64 0], []⟩ 8 (by kernel_rfl) (by kernel_rfl) (by kernel_rfl) (by kernel_rfl)) ?_
  intro W base args ds gs before hval0 hW hcnd _
  have hval : ∀ (j : Nat) t v, Try.f6.params[j]? = some t → args[j]? = some v → Value.okWide Try.prog W .any base t v := hval0
  have hW' := hW
  obtain ⟨p, q, hA0, hV, rfl, hfz, hnd⟩ := hW
  have hA : DataW.TrodAll enc Try.prog W 0 (fun _ => true) true Try.f6.params.toList args.toList ds p := hA0
  have hA' := hA
  rw [Try.params6] at hA hval
  obtain ⟨v0, vs0, d0, ds0, p0, q0, hargs, rfl, rfl, g0, r0⟩ := trodAll_cons hA
  obtain ⟨v1, vs1, d1, ds1, p1, q1, rfl, rfl, rfl, g1, r1⟩ := trodAll_cons r0
  obtain ⟨v2, vs2, d2, ds2, p2, q2, rfl, rfl, rfl, g2, r2⟩ := trodAll_cons r1
  obtain ⟨rfl, rfl, rfl⟩ := trodAll_nil r2
  obtain rfl : args = #[v0, v1, v2] := by cases args; simp_all
  obtain ⟨rfl, rfl⟩ := trodVars_none hV
  simp only [List.append_nil] at hW' hA'
  obtain ⟨s0, m0, k0, l0, rfl, c0⟩ := rec_came (P := Try.prog) (t := 43) (ts := 22) (te := 3) (ti := 3) (k := .i64) (by kernel_rfl) (by kernel_rfl) (by kernel_rfl) (by kernel_rfl) Try.underlying22 Try.underlying3 (by kernel_rfl) Try.underlying3 (hval 0 43 v0 rfl rfl) g0
  obtain ⟨l1, c1⟩ := came (P := Try.prog) Try.underlying22 Try.underlying3 (by kernel_rfl) (hval 1 22 v1 rfl rfl) g1
  obtain ⟨a2, rfl, rfl, rfl, w2⟩ := open_int Try.underlying3 (hval 2 3 v2 rfl rfl) g2
  have hbk : ∀ b ∈ blocksOf [s0, v1], ∃ C e fz, W.heap[b]? = some (.cells C e fz) := by
    intro b hb
    obtain ⟨v, h1, h2⟩ := blocksOf_of hb
    simp only [List.mem_cons, List.not_mem_nil, or_false] at h1
    rcases h1 with rfl | rfl
    · exact c0.block b h2
    · exact c1.block b h2
  have S := sim0 (W := W) (bs := (blocksOf [s0, v1])) (blocksOf_nodup [s0, v1]) hbk
  obtain ⟨x0, y0, z0⟩ := c0.ls (bs := (blocksOf [s0, v1])) (blocksOf_nodup [s0, v1]) (fun b h => blocksOf_mem (by simp) h)
  have h0 : Ls (H0 W (blocksOf [s0, v1])) x0 l0 := z0
  obtain ⟨x1, y1, z1⟩ := c1.ls (bs := (blocksOf [s0, v1])) (blocksOf_nodup [s0, v1]) (fun b h => blocksOf_mem (by simp) h)
  have h1 : Ls (H0 W (blocksOf [s0, v1])) x1 l1 := z1
  refine ((blendNearest_ac x0 x1 l0 l1 m0 k0 a2 _ h0 h1).law S (cargs := #[.agg #[s0, .int .i64 m0, .int .i64 k0], v1, .int .i64 a2]) (.cons (.agg (.cons y0 (.cons (.int _ _) (.cons (.int _ _) .nil)))) (.cons y1 (.cons (.int _ _) .nil))) (fun _ _ h => h)).mono ?_
  rintro e W' ⟨rfl, hg⟩
  exact ⟨_, rfl, law_post hg (by kernel_rfl) (by kernel_rfl) rfl rfl Try.underlying4 hW' hA' rfl rfl rfl⟩
theorem over : Rows.blendNearestRow.holds Try.pinned (OpenSpec.ofChange Rows.blendNearestSpec) :=
  OpenClaim.holds_of_wide 6 Try.f6 rfl rfl rfl rfl rfl rfl rfl ⟨rfl, rfl, rfl, rfl, rfl⟩ rfl rfl rfl rfl rfl (by kernel_rfl) Try.func6 (by kernel_rfl)
    (of_decide_eq_true (by kernel_rfl)) (by unfold Func.isWrapper; first | (rw [if_pos (by decide +kernel)]; kernel_rfl) | (rw [if_neg (by decide +kernel)]; exact ⟨rfl, rfl⟩))
    (fun os started H enc _ => lifted os started H enc)
/-- The statement. -/
theorem proved : Rows.BlendNearestSaid :=
  over
#print axioms proved
end Go.Proofs.Ytmoifofihafgmaa.blendNearest
