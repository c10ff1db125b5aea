/- BlendRecipes, walked. -/
import Derived.Test.YtpdcmdmhamnndaaFit2
namespace Go.Proofs.Ytpdcmdmhamnndaa
open Go Go.Proofs.Ytpdcmdmhamnndaa.AX

theorem zt44 : zeroT Try.prog 44 = some [.slice none 0 0 0 1 false, .int .i64 0, .int .i64 0] := by kernel_rfl
theorem CheckRecipe_q (v : AV) (ws : List Int) (lo hi : Int) (H : AH) (hl : ws.length ≤ 1000000) (hv : Ls H v ws) (Q : AV → AH → Prop) (h : Q (.int .i64 (recE ws lo hi)) H) : AC Try.prog 36 [.agg [v, .int .i64 lo, .int .i64 hi]] H Q :=
  AC.quiet (belB_int _ _ _ _) (fun Q h => CheckRecipe_ac v ws lo hi H Q hl hv h) Q h
theorem rCheckRecipe_q (v : AV) (ws : List Int) (lo hi : Int) (H : AH) (hl : ws.length ≤ 1000000) (hv : Ls H v ws) (Q : AV → AH → Prop) (h : Q (.int .i64 (recE ws lo hi)) H) : AC Try.prog 37 [.agg [v, .int .i64 lo, .int .i64 hi]] H Q :=
  AC.quiet (belB_int _ _ _ _) (fun Q h => rCheckRecipe_ac v ws lo hi H Q hl hv h) Q h
set_option maxRecDepth 100000 in
theorem blendRecipes_ac (vw vb : AV) (ws b : List Int) (lo hi k : Int) (H : AH) (hw : Ls H vw ws) (hb : Ls H vb b) : AC Try.prog 5 [.agg [vw, .int .i64 lo, .int .i64 hi], vb, .int .i64 k] H fun u _ => u = .bool true := by
  obtain ⟨r, off, ver, sz, full, rfl, -⟩ := id hw
  obtain ⟨r2, off2, ver2, sz2, full2, rfl, -⟩ := id hb
  refine L_body 75 Try.func5 rfl rfl ?_
  refine L_reg [1, 2, 3] (fun K hK => ?_)
  simp [AV.isU, acells]
  apply hK; clear hK K
  have hE := Ext.push H [AObj.row [.slice r off ws.length ver sz full, .int .i64 lo, .int .i64 hi] 0 0 false]
  have hR := RecRow.new H (.slice r off ws.length ver sz full) lo hi 0
  have hw := hw.ext hE
  have hb := hb.ext hE
  generalize H ++ [AObj.row [.slice r off ws.length ver sz full, .int .i64 lo, .int .i64 hi] 0 0 false] = Ha at *
  generalize H.length = q at *
  obtain ⟨d0, -⟩ := hR.lds
  have hrow := row37_2 Ha (x := .slice r off ws.length ver sz full) (y := .slice r2 off2 b.length ver2 sz2 full2) rfl rfl rfl rfl
  have hE0 : Ext Ha (Ha ++ [AObj.row [.slice r off ws.length ver sz full, .slice r2 off2 b.length ver2 sz2 full2] 0 2 false]) := .push _ _
  have hr0 : (Ha ++ [AObj.row [.slice r off ws.length ver sz full, .slice r2 off2 b.length ver2 sz2 full2] 0 2 false])[Ha.length]? = some (.row [.slice r off ws.length ver sz full, .slice r2 off2 b.length ver2 sz2 full2] 0 2 false) := by simp
  have hw := hw.ext hE0
  have hb := hb.ext hE0
  have hR := hR.ext hE0
  generalize Ha ++ [AObj.row [.slice r off ws.length ver sz full, .slice r2 off2 b.length ver2 sz2 full2] 0 2 false] = H0 at *
  have hlss : Lss H0 (.slice (some Ha.length) 0 2 0 1 false) [ws, b] := by
    refine ⟨some Ha.length, 0, 0, 1, false, rfl, fun i hi => ?_⟩
    have : i = 0 ∨ i = 1 := by simp at hi; omega
    rcases this with rfl | rfl
    · exact ⟨Ha.length, _, rfl, rfl, by rw [ld_row hr0]; rfl, hw⟩
    · exact ⟨Ha.length, _, rfl, rfl, by rw [ld_row hr0]; rfl, hb⟩
  refine L_reg [1, 2, 3, 20] (fun K hK => ?_)
  simp [okFn_low, d0, hrow]
  refine larges_ac [ws, b] _ H0 _ (by simp) hlss ?_
  simp
  apply hK; clear hK K
  by_cases hbig : 60 < ws.length ∨ 60 < b.length
  · refine L_true (by simp; omega) ?_
    refine L_reg [6] (fun K hK => ?_)
    simp [okFn_low]
    refine works_ac _ _ ?_
    simp
    apply hK; clear hK K
    exact L_ret ⟨.inr rfl, _, rfl, rfl⟩
  refine L_false (by simp; omega) ?_
  have hwl : ws.length ≤ 1000000 := by omega
  have hbl : b.length ≤ 1000000 := by omega
  obtain ⟨-, -, -, d3⟩ := hR.lds
  have hrz : (H0 ++ [AObj.row [.slice none 0 0 0 1 false, .int .i64 0, .int .i64 0] 0 0 false])[H0.length]? = some (.row [.slice none 0 0 0 1 false, .int .i64 0, .int .i64 0] 0 0 false) := by simp
  have hst := store_agg ag44 (vs := [.slice r off ws.length ver sz full, .int .i64 lo, .int .i64 hi]) hrz (by decide) rfl (by simp) rfl (by simp [AV.one])
  have hEs : Ext H0 ((H0 ++ [AObj.row [.slice none 0 0 0 1 false, .int .i64 0, .int .i64 0] 0 0 false]).set H0.length (.row [.slice r off ws.length ver sz full, .int .i64 lo, .int .i64 hi] 0 0 false)) := (Ext.push _ _).set _ (Nat.le_refl _)
  have hR2 : RecRow ((H0 ++ [AObj.row [.slice none 0 0 0 1 false, .int .i64 0, .int .i64 0] 0 0 false]).set H0.length (.row [.slice r off ws.length ver sz full, .int .i64 lo, .int .i64 hi] 0 0 false)) H0.length (.slice r off ws.length ver sz full) lo hi := ⟨0, get_set hrz⟩
  have hw := hw.ext hEs
  have hb := hb.ext hEs
  have hR := hR.ext hEs
  generalize hH1 : (H0 ++ [AObj.row [.slice none 0 0 0 1 false, .int .i64 0, .int .i64 0] 0 0 false]).set H0.length (.row [.slice r off ws.length ver sz full, .int .i64 lo, .int .i64 hi] 0 0 false) = H1 at *
  refine L_reg [1, 2, 3, 7] (fun K hK => ?_)
  simp [d3, alloc_z zt44, hst, hH1]
  apply hK; clear hK K
  clear hst hrz hH1 hEs
  generalize H0.length = q2 at *
  obtain ⟨-, -, -, d3⟩ := hR.lds
  obtain ⟨-, -, -, f3⟩ := hR2.lds
  refine L_reg [1, 2, 3, 7, 8, 9] (fun K hK => ?_)
  simp [okFn_low, d3]
  refine Weight_ac _ _ ws b lo hi H1 _ hwl hbl hw hb (fun H2 hE2 => ?_)
  simp
  apply hK; clear hK K
  have hw := hw.ext hE2
  have hb := hb.ext hE2
  have hR := hR.ext hE2
  have hR2 := hR2.ext hE2
  obtain ⟨-, -, -, d3⟩ := hR.lds
  obtain ⟨-, -, -, f3⟩ := hR2.lds
  refine L_reg [2, 3, 7, 8, 9, 10, 11] (fun K hK => ?_)
  simp [okFn_low, f3]
  refine rWeight_ac _ _ ws b lo hi H2 _ hwl hbl hw hb (fun H3 hE3 => ?_)
  simp
  apply hK; clear hK K
  have hw := hw.ext hE3
  have hR := hR.ext hE3
  have hR2 := hR2.ext hE3
  obtain ⟨-, -, -, d3⟩ := hR.lds
  refine L_reg [2, 3, 7, 8, 9, 10, 11, 12, 13] (fun K hK => ?_)
  simp [okFn_low, d3]
  refine Fits_ac _ ws lo hi k H3 _ hwl hw (fun H4 hE4 => ?_)
  simp
  apply hK; clear hK K
  have hw := hw.ext hE4
  have hR := hR.ext hE4
  have hR2 := hR2.ext hE4
  obtain ⟨-, -, -, f3⟩ := hR2.lds
  refine L_reg [3, 7, 8, 9, 10, 11, 12, 13, 14, 15] (fun K hK => ?_)
  simp [okFn_low, f3]
  refine rFits_ac _ ws lo hi k H4 _ hwl hw (fun H5 hE5 => ?_)
  simp
  apply hK; clear hK K
  have hw := hw.ext hE5
  obtain ⟨-, -, -, d3⟩ := (hR.ext hE5).lds
  obtain ⟨-, -, -, f3⟩ := (hR2.ext hE5).lds
  refine L_regY mixed [6] (by kernel_rfl) (fun K hK => ?_)
  simp [okFn_low, pickV, d3]
  refine exX_mk (fun Q hQ => CheckRecipe_q _ ws lo hi H5 hwl hw Q hQ) (.refl _) ?_
  simp [okFn_low, pickV, f3]
  refine exX_mk (fun Q hQ => rCheckRecipe_q _ ws lo hi H5 hwl hw Q hQ) (.refl _) ?_
  simp [okFn_low, pickV]
  refine exX_mk (fun Q hQ => works_ac H5 Q hQ) (.refl _) ?_
  simp [pickV]
  apply hK; clear hK K
  exact L_ret ⟨.inr rfl, _, rfl, rfl⟩
end Go.Proofs.Ytpdcmdmhamnndaa
