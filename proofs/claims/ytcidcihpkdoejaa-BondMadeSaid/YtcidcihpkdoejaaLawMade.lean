/- BondMade returns true for each rule and each plan, and leaves what was there as it was. No conditions. -/
import Derived.Test.YtcidcihpkdoejaaWMade
import Derived.Test.YtcidcihpkdoejaaRec2
import Derived.Test.YtcidcihpkdoejaaRows
import Derived.Test.YtcidcihpkdoejaaAxT
namespace Go.Proofs.Ytcidcihpkdoejaa.bondMade
open Go Go.Proofs.Ytcidcihpkdoejaa.AX Go.ChangeShapes Go.WideShapes Go.ChangeAt Go.RowKit
set_option linter.unusedVariables false
theorem own : ownKnob Try.prog.godebug = none := by kernel_rfl
set_option maxRecDepth 100000 in
theorem lifted (os : Os) (started : os.Started) (H : Type) (enc : TypeId × Value → H) :
    ReturnsInHanded {} Try.checked os 5 .any (Rows.bondMadeSpec.pre6 enc Try.prog Try.f5 Rows.bondMadeRow.domain false) (Rows.bondMadeSpec.post enc Try.prog Try.f5 false true false false) := by
  refine returnsInHanded_of_change (C := Try.checked) own started (by kernel_rfl) Try.func5
    (ChangeSpec.witness6 (enc := enc) (C := Try.checked) false ⟨#[], #[.agg #[.int .i64 0, .slice none 0 0], .agg #[.int .i64 0, .slice none 0 0]], []⟩ 8 (by kernel_rfl) (by kernel_rfl) (by kernel_rfl) (by kernel_rfl)) ?_
  intro W base args ds gs before hval0 hW hcnd _
  have hval : ∀ (j : Nat) t v, Try.f5.params[j]? = some t → args[j]? = some v → Value.okWide Try.prog W .any base t v := hval0
  have hW' := hW
  obtain ⟨p, q, hA0, hV, rfl, hfz, hnd⟩ := hW
  have hA : DataW.TrodAll enc Try.prog W 0 (fun _ => true) true Try.f5.params.toList args.toList ds p := hA0
  have hA' := hA
  rw [Try.params5] at hA hval
  obtain ⟨v0, vs0, d0, ds0, p0, q0, hargs, rfl, rfl, g0, r0⟩ := trodAll_cons hA
  obtain ⟨v1, vs1, d1, ds1, p1, q1, rfl, rfl, rfl, g1, r1⟩ := trodAll_cons r0
  obtain ⟨rfl, rfl, rfl⟩ := trodAll_nil r1
  obtain rfl : args = #[v0, v1] := by cases args; simp_all
  obtain ⟨rfl, rfl⟩ := trodVars_none hV
  simp only [List.append_nil] at hW' hA'
  obtain ⟨s0, m0, l0, rfl, w0, c0⟩ := rec2_came (P := Try.prog) (t := 24) (ts := 22) (te := 3) (ti := 3) (k := .i64) (by kernel_rfl) (by kernel_rfl) (by kernel_rfl) (by kernel_rfl) Try.underlying22 Try.underlying3 (by kernel_rfl) Try.underlying3 (hval 0 24 v0 rfl rfl) g0
  obtain ⟨s1, m1, l1, rfl, w1, c1⟩ := rec2_came (P := Try.prog) (t := 40) (ts := 22) (te := 3) (ti := 3) (k := .i64) (by kernel_rfl) (by kernel_rfl) (by kernel_rfl) (by kernel_rfl) Try.underlying22 Try.underlying3 (by kernel_rfl) Try.underlying3 (hval 1 40 v1 rfl rfl) g1
  have hbk : ∀ b ∈ blocksOf [s0, s1], ∃ C e fz, W.heap[b]? = some (.cells C e fz) := by
    intro b hb
    obtain ⟨v, h1, h2⟩ := blocksOf_of hb
    simp only [List.mem_cons, List.not_mem_nil, or_false] at h1
    rcases h1 with rfl | rfl
    · exact c0.block b h2
    · exact c1.block b h2
  have S := sim0 (W := W) (bs := (blocksOf [s0, s1])) (blocksOf_nodup [s0, s1]) hbk
  obtain ⟨x0, y0, z0⟩ := c0.ls (bs := (blocksOf [s0, s1])) (blocksOf_nodup [s0, s1]) (fun b h => blocksOf_mem (by simp) h)
  have h0 : Ls (H0 W (blocksOf [s0, s1])) x0 l0 := z0
  obtain ⟨x1, y1, z1⟩ := c1.ls (bs := (blocksOf [s0, s1])) (blocksOf_nodup [s0, s1]) (fun b h => blocksOf_mem (by simp) h)
  have h1 : Ls (H0 W (blocksOf [s0, s1])) x1 l1 := z1
  refine ((Bo.law5_ac m0 l0 x0 m1 l1 x1 _ h0 h1).law S (cargs := #[.agg #[.int .i64 m0, s0], .agg #[.int .i64 m1, s1]]) (.cons (.agg (.cons (.int _ _) (.cons y0 .nil))) (.cons (.agg (.cons (.int _ _) (.cons y1 .nil))) .nil)) (fun _ _ h => h)).mono ?_
  rintro e W' ⟨rfl, hg⟩
  exact ⟨_, rfl, law_post hg (by kernel_rfl) (by kernel_rfl) rfl rfl Try.underlying4 hW' hA' rfl rfl rfl⟩
theorem over : Rows.bondMadeRow.holds Try.pinned (OpenSpec.ofChange Rows.bondMadeSpec) :=
  OpenClaim.holds_of_wide 5 Try.f5 rfl rfl rfl rfl rfl rfl rfl ⟨rfl, rfl, rfl, rfl, rfl⟩ rfl rfl rfl rfl rfl (by kernel_rfl) Try.func5 (by kernel_rfl)
    (of_decide_eq_true (by kernel_rfl)) (by unfold Func.isWrapper; first | (rw [if_pos (by decide +kernel)]; kernel_rfl) | (rw [if_neg (by decide +kernel)]; exact ⟨rfl, rfl⟩))
    (fun os started H enc _ => lifted os started H enc)
/-- The statement. -/
theorem proved : Rows.BondMadeSaid :=
  over
#print axioms proved
end Go.Proofs.Ytcidcihpkdoejaa.bondMade
