/- Meet of flat divisions is flat, and the finer one has the coarser one of gaps: the walk. -/
import Derived.Test.YtjaefngmidllgaaFlatn
import Derived.Test.YtjaefngmidllgaaMade2
import Derived.Test.YtjaefngmidllgaaOwn
import Derived.Test.YtjaefngmidllgaaWorks
namespace Go.Proofs.Ytjaefngmidllgaa.St
open Go Go.Proofs.Ytjaefngmidllgaa Go.Proofs.Ytjaefngmidllgaa.AX
set_option maxRecDepth 100000
set_option linter.unusedVariables false
set_option maxHeartbeats 4000000 in
theorem flat_ac {s : List Nat} (hs : s.length = 19 ∧ ∀ x ∈ s, x < 256) (H : AH) : AC Try.prog 12 [.agg (sV s)] H fun v _ => v = .bool true := by
  obtain ⟨x, p, q, rfl, hx, hp, hq, hp2, hq2⟩ := nineteen hs
  clear hs
  refine L_body 99 Try.func12 rfl rfl ?_
  refine L_reg [1] (fun K hK => ?_)
  simp [AV.isU, acells]
  apply hK; clear hK K
  have hr : (H ++ [AObj.row (sV (x :: (p ++ q))) 0 0 false])[H.length]? = some (.row (sV (x :: (p ++ q))) 0 0 false) := by simp
  obtain ⟨pl, hpl⟩ : ∃ pl, H.length = pl := ⟨_, rfl⟩
  rw [hpl] at hr ⊢
  generalize H ++ [AObj.row (sV (x :: (p ++ q))) 0 0 false] = H1 at hr ⊢
  have l0 : ldn H1 pl 0 19 0 = some (sV (x :: (p ++ q))) := by
    have := ldn_sV (a := []) (b := x :: (p ++ q)) (c := []) (H := H1) (r := pl) (s := 0) (by simpa using hr)
    rw [show (x :: (p ++ q)).length = 19 by simp; omega] at this; exact this
  refine L_reg [3, 4] (fun K hK => ?_)
  simp [okFn_low, l0]
  refine made_ac x p q hx hp hq hp2 hq2 9 4 (by omega) (by omega) (by omega) (by omega) H1 _ fun v w H2 hv hw hE2 => ?_
  have hn9 : 1 + x % 9 ≤ 9 := by have := Nat.mod_lt x (show 0 < 9 by decide); omega
  have hnp : (lbl (1 + x % 9) 4 p).length = 1 + x % 9 := lbl_len hp hn9
  have hnq : (lbl (1 + x % 9) 4 q).length = 1 + x % 9 := lbl_len hq hn9
  have hA : OkD (dv (lbl (1 + x % 9) 4 p)) := dv_okD _ (by omega) (by omega)
  have hB : OkD (dv (lbl (1 + x % 9) 4 q)) := dv_okD _ (by omega) (by omega)
  have hab : (dv (lbl (1 + x % 9) 4 p)).length = (dv (lbl (1 + x % 9) 4 q)).length := by rw [dv_len, dv_len]; omega
  generalize dv (lbl (1 + x % 9) 4 p) = c at hv hA hab
  generalize dv (lbl (1 + x % 9) 4 q) = e at hw hB hab
  simp
  apply hK; clear hK K hE2 hr l0
  refine L_reg [5, 6] (fun K hK => ?_)
  simp [okFn_low]
  refine flatten_ac hA.pos hA.len v H2 hv _ fun a v3 H3 ha hal hca ho3 hE3 => ?_
  simp [okFn_low]
  refine flatten_ac hB.pos hB.len w H3 (hw.ext hE3) _ fun b w3 H4 hb hbl hcb ho4 hE4 => ?_
  simp
  apply hK; clear hK K hv hw
  have la := (ownF_ls ho3).ext hE4
  have lb := ownF_ls ho4
  have hl : a.length = b.length := by omega
  clear ho3 ho4 hE3 hE4 hab hal hbl hA hB
  have na := nc_iff.1 hca
  have nb := nc_iff.1 hcb
  refine L_reg [5, 7, 8] (fun K hK => ?_)
  simp [okFn_low]
  refine Meet_ok ha hb hl v3 w3 H4 la lb _ fun m H5 ho5 hE5 => ?_
  have lm : Ls H5 m (il (mtS a b)) := ownF_ls ho5
  simp
  apply hK; clear hK K ho5
  have hml := mt_len hl
  have hM : OkD (mtS a b) := dv_okD _ (by rw [prs_len hl]; exact ha.pos) (by rw [prs_len hl]; exact ha.len)
  have nm := mt_nc hl na nb
  have hcm := nc_iff.2 nm
  have hfin := mt_dn1 hl
  have hgf := gaps_fin ha hM hml hfin
  have la := la.ext hE5
  generalize mtS a b = M at lm hml hM nm hcm hfin hgf
  have va := ils_len la
  have vm := ils_len lm
  rw [hml] at vm
  refine L_reg [5, 7, 41] (fun K hK => ?_)
  simp [va, vm]
  apply hK; clear hK K
  refine L_false (by simp) ?_
  refine L_reg [5, 7, 9, 11] (fun K hK => ?_)
  simp [okFn_low]
  refine Arcs_ok 35 (.inl rfl) hM m H5 lm _ fun H6 hE6 => ?_
  rw [hcm]
  simp
  apply hK; clear hK K
  have la := la.ext hE6
  have lm := lm.ext hE6
  refine L_reg [5, 7, 9, 11, 12, 13] (fun K hK => ?_)
  simp [okFn_low]
  refine Gaps_ok 39 (.inl rfl) ha hca v3 H6 la _ fun g H7 ho7 hE7 => ?_
  simp
  apply hK; clear hK K
  have la := la.ext hE7
  have lm := lm.ext hE7
  have lg := ownF_ls ho7
  refine L_reg [5, 7, 9, 11, 12, 13, 14, 15] (fun K hK => ?_)
  simp [okFn_low]
  refine Gaps_ok 39 (.inl rfl) hM hcm m H7 lm _ fun o H8 ho8 hE8 => ?_
  simp
  apply hK; clear hK K
  have la := la.ext hE8
  have lm := lm.ext hE8
  have lg := lg.ext hE8
  have lo := ownF_ls ho8
  refine L_reg [5, 7, 12, 14, 71] (fun K hK => ?_)
  simp
  apply hK; clear hK K
  refine L_false rfl ?_
  refine L_reg [5, 7, 8, 16] (fun K hK => ?_)
  simp [okFn_low]
  refine Finer_ok (gp_ok ha) (gp_ok hM) (by rw [gp_len, gp_len, hml]) g o H8 lg lo _ fun H9 hE9 => ?_
  rw [hgf]
  simp
  apply hK; clear hK K
  have la := la.ext hE9
  have lm := lm.ext hE9
  refine L_reg [8, 11, 16, 17] (fun K hK => ?_)
  simp [okFn_low]
  refine Finer_ok hM ha hml m v3 H9 lm la _ fun HA hEA => ?_
  rw [hfin]
  simp
  apply hK; clear hK K
  refine L_reg [2] (fun K hK => ?_)
  simp [okFn_low, pickV]
  refine works_ac _ _ ?_
  simp [pickV]
  apply hK; clear hK K
  exact L_ret ⟨.inr rfl, _, rfl, rfl⟩
end Go.Proofs.Ytjaefngmidllgaa.St
