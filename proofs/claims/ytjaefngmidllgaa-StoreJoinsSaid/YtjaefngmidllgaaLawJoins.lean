/- Finer divisions, and what is coarser or finer than two, are as stated. No conditions. -/
import Derived.Test.YtjaefngmidllgaaWJoins
import Derived.Test.YtjaefngmidllgaaRows
import Derived.Test.YtjaefngmidllgaaAxT
namespace Go.Proofs.Ytjaefngmidllgaa.storeJoins
open Go Go.Proofs.Ytjaefngmidllgaa.AX Go.ChangeShapes Go.WideShapes Go.ChangeAt Go.RowKit
set_option linter.unusedVariables false
theorem own : ownKnob Try.prog.godebug = none := by kernel_rfl
set_option maxRecDepth 100000 in
theorem lifted (os : Os) (started : os.Started) (H : Type) (enc : TypeId × Value → H) :
    ReturnsInHanded {} Try.checked os 4 .any (Rows.storeJoinsSpec.pre6 enc Try.prog Try.f4 Rows.storeJoinsRow.domain false) (Rows.storeJoinsSpec.post enc Try.prog Try.f4 false true false false) := by
  refine returnsInHanded_of_change (C := Try.checked) own started (by kernel_rfl) Try.func4
    (ChangeSpec.witness6 (enc := enc) (C := Try.checked) false ⟨#[], #[.slice none 0 0, .slice none 0 0], []⟩ 8 (by kernel_rfl) (by kernel_rfl) (by kernel_rfl) (by kernel_rfl)) ?_
  intro W base args ds gs before hval0 hW hcnd _
  have hval : ∀ (j : Nat) t v, Try.f4.params[j]? = some t → args[j]? = some v → Value.okWide Try.prog W .any base t v := hval0
  have hW' := hW
  obtain ⟨p, q, hA0, hV, rfl, hfz, hnd⟩ := hW
  have hA : DataW.TrodAll enc Try.prog W 0 (fun _ => true) true Try.f4.params.toList args.toList ds p := hA0
  have hA' := hA
  rw [Try.params4] at hA hval
  obtain ⟨v0, vs0, d0, ds0, p0, q0, hargs, rfl, rfl, g0, r0⟩ := trodAll_cons hA
  obtain ⟨v1, vs1, d1, ds1, p1, q1, rfl, rfl, rfl, g1, r1⟩ := trodAll_cons r0
  obtain ⟨rfl, rfl, rfl⟩ := trodAll_nil r1
  obtain rfl : args = #[v0, v1] := by cases args; simp_all
  obtain ⟨rfl, rfl⟩ := trodVars_none hV
  simp only [List.append_nil] at hW' hA'
  obtain ⟨l0, c0⟩ := came (P := Try.prog) Try.underlying22 Try.underlying3 (by kernel_rfl) (hval 0 22 v0 rfl rfl) g0
  obtain ⟨l1, c1⟩ := came (P := Try.prog) Try.underlying22 Try.underlying3 (by kernel_rfl) (hval 1 22 v1 rfl rfl) g1
  have hbk : ∀ b ∈ blocksOf [v0, v1], ∃ C e fz, W.heap[b]? = some (.cells C e fz) := by
    intro b hb
    obtain ⟨v, h1, h2⟩ := blocksOf_of hb
    simp only [List.mem_cons, List.not_mem_nil, or_false] at h1
    rcases h1 with rfl | rfl
    · exact c0.block b h2
    · exact c1.block b h2
  have S := sim0 (W := W) (bs := (blocksOf [v0, v1])) (blocksOf_nodup [v0, v1]) hbk
  obtain ⟨x0, y0, z0⟩ := c0.ls (bs := (blocksOf [v0, v1])) (blocksOf_nodup [v0, v1]) (fun b h => blocksOf_mem (by simp) h)
  have h0 : Ls (H0 W (blocksOf [v0, v1])) x0 l0 := z0
  obtain ⟨x1, y1, z1⟩ := c1.ls (bs := (blocksOf [v0, v1])) (blocksOf_nodup [v0, v1]) (fun b h => blocksOf_mem (by simp) h)
  have h1 : Ls (H0 W (blocksOf [v0, v1])) x1 l1 := z1
  refine ((St.joins_ac l0 l1 x0 x1 _ h0 h1).law S (cargs := #[v0, v1]) (.cons y0 (.cons y1 .nil)) (fun _ _ h => h)).mono ?_
  rintro e W' ⟨rfl, hg⟩
  exact ⟨_, rfl, law_post hg (by kernel_rfl) (by kernel_rfl) rfl rfl Try.underlying4 hW' hA' rfl rfl rfl⟩
theorem over : Rows.storeJoinsRow.holds Try.pinned (OpenSpec.ofChange Rows.storeJoinsSpec) :=
  OpenClaim.holds_of_wide 4 Try.f4 rfl rfl rfl rfl rfl rfl rfl ⟨rfl, rfl, rfl, rfl, rfl⟩ rfl rfl rfl rfl rfl (by kernel_rfl) Try.func4 (by kernel_rfl)
    (of_decide_eq_true (by kernel_rfl)) (by unfold Func.isWrapper; first | (rw [if_pos (by decide +kernel)]; kernel_rfl) | (rw [if_neg (by decide +kernel)]; exact ⟨rfl, rfl⟩))
    (fun os started H enc _ => lifted os started H enc)
/-- The statement. -/
theorem proved : Rows.StoreJoinsSaid :=
  over
#print axioms proved
end Go.Proofs.Ytjaefngmidllgaa.storeJoins
