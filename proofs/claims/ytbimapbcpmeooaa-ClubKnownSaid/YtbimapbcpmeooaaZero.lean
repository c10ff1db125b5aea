/- Make of one sorter without tables. -/
import Derived.Test.YtbimapbcpmeooaaWorks
namespace Go.Proofs.Ytbimapbcpmeooaa.Cl
open Go Go.Proofs.Ytbimapbcpmeooaa Go.Proofs.Ytbimapbcpmeooaa.AX
set_option maxRecDepth 100000
set_option linter.unusedVariables false
theorem zero_in (r ps q lv s s2 : Nat) (H : AH) (Q : AV → AH → Prop) (h1 : H[ps]? = some (.row [.slice (some q) 0 1 lv 1 false, .slice none 0 0 0 1 false, .yld r] 0 s false)) (h2 : H[q]? = some (.row [.int .i64 0] lv s2 false))
    (hy : AYld Try.prog r [.slice none 0 0 0 1 false] H fun u H' => ∃ t : Bool, u = .bool t ∧ Q (.bool t) H') : AC Try.prog 89 [.ptr ps 0 0, .int .i64 1, .int .i64 2] H Q := by
  have e0 : ld H ps 0 0 = some (.slice (some q) 0 1 lv 1 false) := by rw [ld_row h1]; rfl
  have e1 : ld H ps 1 0 = some (.slice none 0 0 0 1 false) := by rw [ld_row h1]; rfl
  have e2 : ld H ps 2 0 = some (.yld r) := by rw [ld_row h1]; rfl
  refine L_body 72 Try.func89 rfl rfl ?_
  refine L_reg [0, 1, 2] (fun K hK => ?_)
  simp
  apply hK; clear hK K
  refine L_reg [0, 1, 2, 13] (fun K hK => ?_)
  simp [e0, aNil]
  apply hK; clear hK K
  refine L_true (by simp) ?_
  refine L_regM mixed 8 [6] (by decide) (by kernel_rfl) (fun K hK => ?_)
  simp [e1, e2, aNil]
  refine hy.mono ?_
  rintro _ H' ⟨t, rfl, ht⟩
  simp
  apply hK; clear hK K
  exact L_ret ⟨.inr rfl, _, rfl, ht⟩
theorem zero_from (r ps q lv s s2 : Nat) (H : AH) (Q : AV → AH → Prop) (h1 : H[ps]? = some (.row [.slice (some q) 0 1 lv 1 false, .slice none 0 0 0 1 false, .yld r] 0 s false)) (h2 : H[q]? = some (.row [.int .i64 0] lv s2 false))
    (hy : AYld Try.prog r [.slice none 0 0 0 1 false] H fun u H' => ∃ t : Bool, u = .bool t ∧ Q (.bool t) H') : AC Try.prog 89 [.ptr ps 0 0, .int .i64 0, .int .i64 1] H Q := by
  have e0 : ld H ps 0 0 = some (.slice (some q) 0 1 lv 1 false) := by rw [ld_row h1]; rfl
  have e3 : ld H q 0 lv = some (.int .i64 0) := by rw [ld_row h2]; rfl
  refine L_body 72 Try.func89 rfl rfl ?_
  refine L_reg [0, 1, 2] (fun K hK => ?_)
  simp
  apply hK; clear hK K
  refine L_reg [0, 1, 2, 13] (fun K hK => ?_)
  simp [e0, aNil]
  apply hK; clear hK K
  refine L_false (by simp) ?_
  refine L_reg [0, 1, 2, 29] (fun K hK => ?_)
  simp [e0, aNil]
  apply hK; clear hK K
  refine L_true (by simp) ?_
  refine L_reg [0, 1, 37] (fun K hK => ?_)
  simp [e0, aNil, e3]
  apply hK; clear hK K
  refine L_false (by simp) ?_
  refine L_reg [6] (fun K hK => ?_)
  simp [okFn_low, wrap_i64 (a := 1) (by omega), wrap_i64 (a := 2) (by omega)]
  refine zero_in r ps q lv s s2 H _ h1 h2 (hy.mono ?_)
  rintro _ H' ⟨t, rfl, ht⟩
  refine ⟨t, rfl, ?_⟩
  simp
  apply hK; clear hK K
  exact L_ret ⟨.inr rfl, _, rfl, ht⟩
theorem plans0_ac (r pl s0 : Nat) (v : AV) (H : AH) (Q : AV → AH → Prop) (hpl : H[pl]? = some (.row [v] 0 s0 false)) (hv : Ls H v (il [0])) (hy : ∀ H', Ext H H' → AYld Try.prog r [.slice none 0 0 0 1 false] H' fun u H2 => ∃ t : Bool, u = .bool t ∧ Q (.tuple []) H2) : AC Try.prog 88 [.yld r, .ptr pl 0 0] H Q := by
  have e0 : ld H pl 0 0 = some v := by rw [ld_row hpl]; exact known_one (ls_one hv)
  refine L_body 9 Try.func88 rfl rfl ?_
  refine L_reg [3] (fun K hK => ?_)
  simp [okFn_low, e0]
  refine Clone_ac v (il [0]) _ _ (by simp [il]) hv (fun u H1 hO hE => ?_)
  rcases hO with ⟨h0, -⟩ | ⟨q, lv, st, g1, rfl, g3⟩
  · simp [il] at h0
  have hrz : (H1 ++ [AObj.row [.slice none 0 0 0 1 false, .slice none 0 0 0 1 false, .nilfunc] 0 0 false])[H1.length]? = some (.row [.slice none 0 0 0 1 false, .slice none 0 0 0 1 false, .nilfunc] 0 0 false) := by simp
  have hst := store_agg ag118 (vs := [.slice (some q) 0 1 lv 1 false, .slice none 0 0 0 1 false, .yld r]) hrz (by decide) rfl (by simp) rfl (by simp [AV.one])
  have hr2 := get_set (o' := .row [.slice (some q) 0 1 lv 1 false, .slice none 0 0 0 1 false, .yld r] 0 0 false) hrz
  have hE2 : Ext H1 ((H1 ++ [AObj.row [.slice none 0 0 0 1 false, .slice none 0 0 0 1 false, .nilfunc] 0 0 false]).set H1.length (.row [.slice (some q) 0 1 lv 1 false, .slice none 0 0 0 1 false, .yld r] 0 0 false)) := (Ext.push _ _).set _ (Nat.le_refl _)
  have hb := built118 q 1 lv r
  simp [il, hb, alloc_z zt118, hst]
  apply hK; clear hK K
  have hqr := hE2.row g3
  have hEE := hE.trans hE2
  simp only [List.set_append_right _ _ (Nat.le_refl H1.length), Nat.sub_self, List.set_cons_zero] at hr2 hqr hEE
  generalize H1 ++ [AObj.row [.slice (some q) 0 1 lv 1 false, .slice none 0 0 0 1 false, .yld r] 0 0 false] = H2 at *
  refine L_reg [] (fun K hK => ?_)
  simp [okFn_low]
  refine zero_from r H1.length q lv 0 st H2 _ hr2 (by simpa [il] using hqr) ((hy H2 hEE).mono ?_)
  rintro _ H' ⟨t, rfl, ht⟩
  refine ⟨t, rfl, ?_⟩
  simp
  apply hK; clear hK K
  exact ⟨.inl rfl, _, rfl, ht⟩
theorem CloneT_nil (H : AH) (Q : AV → AH → Prop) (h : Q (.slice none 0 0 0 1 false) H) : AC Try.prog 68 [.slice none 0 0 0 1 false] H Q := by
  refine L_body 8 Try.func68 rfl rfl ?_
  refine L_reg [0] (fun K hK => ?_)
  simp
  apply hK; clear hK K
  refine L_reg [0, 4] (fun K hK => ?_)
  simp [eq_nil32]
  apply hK; clear hK K
  refine L_true rfl ?_
  refine L_reg [2] (fun K hK => ?_)
  simp
  apply hK; clear hK K
  exact L_ret ⟨.inr rfl, _, rfl, h⟩
set_option maxHeartbeats 2000000 in
theorem Make0_ac (v : AV) (H : AH) (hv : Ls H v (il [0])) (Q : AV → AH → Prop) (h3 : ∀ H', Ext H H' → Q (.tuple [.agg [.int .i64 1, .slice none 0 0 0 1 false], .int .i64 0]) H') : AC Try.prog 23 [v] H Q := by
  have hv1 := ls_one hv
  have hvu : v.isU = false := by cases v <;> simp_all [AV.one, AV.isU]
  have hvc : acells v = [v] := by cases v <;> simp_all [AV.one, acells]
  refine L_body 21 Try.func23 rfl rfl ?_
  obtain ⟨I34, i34, z34⟩ := zeroT_some zt34
  obtain ⟨I24, i24, z24⟩ := zeroT_some zt24
  refine L_reg [1, 2, 3, 5] (fun K hK => ?_)
  simp [i34, z34, i24, z24, hvu, hvc]
  apply hK; clear hK K
  change AWL _ _ _ _ (H ++ [AObj.row [v] 0 0 false, .row [.int .i64 0, .slice none 0 0 0 1 false] 0 0 false, .row [.int .i64 0] 0 0 false]) _
  have hEA : Ext H (H ++ [AObj.row [v] 0 0 false, .row [.int .i64 0, .slice none 0 0 0 1 false] 0 0 false, .row [.int .i64 0] 0 0 false]) := .push _ _
  have hrv : (H ++ [AObj.row [v] 0 0 false, .row [.int .i64 0, .slice none 0 0 0 1 false] 0 0 false, .row [.int .i64 0] 0 0 false])[H.length]? = some (.row [v] 0 0 false) := by simp
  have hrp : (H ++ [AObj.row [v] 0 0 false, .row [.int .i64 0, .slice none 0 0 0 1 false] 0 0 false, .row [.int .i64 0] 0 0 false])[H.length + 1]? = some (.row [.int .i64 0, .slice none 0 0 0 1 false] 0 0 false) := by simp
  have hre : (H ++ [AObj.row [v] 0 0 false, .row [.int .i64 0, .slice none 0 0 0 1 false] 0 0 false, .row [.int .i64 0] 0 0 false])[H.length + 2]? = some (.row [.int .i64 0] 0 0 false) := by simp
  have hlA : (H ++ [AObj.row [v] 0 0 false, .row [.int .i64 0, .slice none 0 0 0 1 false] 0 0 false, .row [.int .i64 0] 0 0 false]).length = H.length + 3 := by simp
  generalize H ++ [AObj.row [v] 0 0 false, .row [.int .i64 0, .slice none 0 0 0 1 false] 0 0 false, .row [.int .i64 0] 0 0 false] = HA at *
  have hv0 := hv.ext hEA
  have ev : ld HA H.length 0 0 = some v := by rw [ld_row hrv]; exact known_one hv1
  have hc0 : chkC (il [0]) = 0 := by decide
  refine L_reg [1, 2, 3, 4, 5] (fun K hK => ?_)
  simp [okFn_low, ev]
  refine Check_q (il [0]) v (by simp [il]) _ hv0 _ ?_
  simp
  apply hK; clear hK K
  rw [hc0]
  refine L_reg [1, 2, 3, 4, 5, 9] (fun K hK => ?_)
  simp
  apply hK; clear hK K
  refine L_false (by simp) ?_
  refine L_reg [1, 2, 3, 5, 13] (fun K hK => ?_)
  simp [okFn_low, ev]
  refine plans_ac v hv1 _ _ ?_
  simp
  apply hK; clear hK K
  have a0 : (HA ++ [AObj.row [v] 0 0 false])[H.length]? = some (.row [v] 0 0 false) := by rw [List.getElem?_append_left (by omega)]; exact hrv
  have a1 : (HA ++ [AObj.row [v] 0 0 false])[H.length + 1]? = some (.row [.int .i64 0, .slice none 0 0 0 1 false] 0 0 false) := by rw [List.getElem?_append_left (by omega)]; exact hrp
  have a2 : (HA ++ [AObj.row [v] 0 0 false])[H.length + 2]? = some (.row [.int .i64 0] 0 0 false) := by rw [List.getElem?_append_left (by omega)]; exact hre
  have a3 : (HA ++ [AObj.row [v] 0 0 false])[H.length + 3]? = some (.row [v] 0 0 false) := by rw [← hlA]; simp
  have a4 : (HA ++ [AObj.row [v] 0 0 false]).length = H.length + 4 := by simp [hlA]
  have a5 : Ext H (HA ++ [AObj.row [v] 0 0 false]) := hEA.trans (.push _ _)
  rw [hlA]
  clear hrv hrp hre ev
  generalize HA ++ [AObj.row [v] 0 0 false] = H1 at a0 a1 a2 a3 a4 a5 ⊢
  have hv1' := hv.ext a5
  generalize hp : H.length = p at a0 a1 a2 a3 a4 hlA ⊢
  refine L_block (L_range [1, 2, 3, 5] rfl (okFn_low (by omega) (by omega)) ?_)
  generalize hL : (⟨21, _, _, _, _⟩ : LR) = L
  have hnt : L.nt = 21 := by rw [← hL]
  have hps : L.ps = #[14] := by rw [← hL]
  have hass := congrArg LR.assign hL.symm
  have he : L.e = [(1, .ptr p 0 0), (2, .ptr (p + 1) 0 0), (3, .ptr (p + 2) 0 0)] := by rw [← hL]; rfl
  have hbody := congrArg LR.body hL.symm
  clear hL
  have hr0 : (H1 ++ [AObj.loop .ready .normal L])[H1.length]? = some (.loop .ready .normal L) := by simp
  have hlen : (H1 ++ [AObj.loop .ready .normal L]).length = p + 5 := by simp [a4]
  have hin : ∀ j, j < H1.length → (H1 ++ [AObj.loop .ready .normal L])[j]? = H1[j]? := fun j hj => List.getElem?_append_left hj
  have hEL : Ext H (H1 ++ [AObj.loop .ready .normal L]) := a5.trans (.push _ _)
  refine plans0_ac H1.length (p + 3) 0 v _ _ (by rw [hin _ (by omega)]; exact a3) (hv1'.ext (.push _ _)) (fun H2 hE2 => ?_)
  have g2 := hE2.row ((hin p (by omega)).trans a0)
  have g5 := hE2.row ((hin (p + 1) (by omega)).trans a1)
  have g6 := hE2.row ((hin (p + 2) (by omega)).trans a2)
  have g3 := hE2.row hr0
  have g4 := hEL.trans hE2
  have g0 : p + 5 ≤ H2.length := by rw [← hlen]; exact hE2.1
  refine AYld_mkA g3 (by rw [hps]; rfl) (by rw [hps, hnt]; simp) ?_
  rw [hnt, hps, he, hass]
  refine L_reg [1, 2, 3, 5] (fun K hK => ?_)
  simp [psEnv]
  apply hK; clear hK K
  refine ⟨rfl, .normal, L, g3, ?_⟩
  rw [hbody]
  have b2 : (H2.set H1.length (.loop .busy .normal L))[p]? = some (.row [v] 0 0 false) := by rw [set_ne (by omega)]; exact g2
  have b5 : (H2.set H1.length (.loop .busy .normal L))[p + 1]? = some (.row [.int .i64 0, .slice none 0 0 0 1 false] 0 0 false) := by rw [set_ne (by omega)]; exact g5
  have b6 : (H2.set H1.length (.loop .busy .normal L))[p + 2]? = some (.row [.int .i64 0] 0 0 false) := by rw [set_ne (by omega)]; exact g6
  have br : (H2.set H1.length (.loop .busy .normal L))[H1.length]? = some (.loop .busy .normal L) := by rw [List.getElem?_set_self (by omega)]
  have bE : Ext H (H2.set H1.length (.loop .busy .normal L)) := g4.set _ (by omega)
  have bl : (H2.set H1.length (.loop .busy .normal L)).length = H2.length := by simp
  generalize H2.set H1.length (.loop .busy .normal L) = H3 at *
  have e2 : ld H3 p 0 0 = some v := by rw [ld_row b2]; exact known_one hv1
  have hv3 : aLen Try.prog 22 v = some (.int .i64 1) := ils_len (hv.ext bE)
  have hst5 := st_two (u := 34) ag34 (x := .int .i64 1) (y := .slice none 0 0 0 1 false) b5 (by simp) (by simp) rfl rfl
  have b7 : (H3.set (p + 1) (.row [.int .i64 1, .slice none 0 0 0 1 false] 0 0 false))[p + 2]? = some (.row [.int .i64 0] 0 0 false) := by rw [set_ne (by omega)]; exact b6
  have hst6 := st_one (u := 24) sc24 (x := .int .i64 0) (y := .int .i64 0) b7 rfl rfl
  have k5 : ((H3.set (p + 1) (.row [.int .i64 1, .slice none 0 0 0 1 false] 0 0 false)).set (p + 2) (.row [.int .i64 0] 0 0 false))[p + 1]? = some (.row [.int .i64 1, .slice none 0 0 0 1 false] 0 0 false) := by rw [set_ne (by omega)]; exact get_set b5
  have k6 := get_set (o' := .row [AV.int .i64 0] 0 0 false) b7
  have kE : Ext H ((H3.set (p + 1) (.row [.int .i64 1, .slice none 0 0 0 1 false] 0 0 false)).set (p + 2) (.row [.int .i64 0] 0 0 false)) := (bE.set _ (by omega)).set _ (by omega)
  have kr : ((H3.set (p + 1) (.row [.int .i64 1, .slice none 0 0 0 1 false] 0 0 false)).set (p + 2) (.row [.int .i64 0] 0 0 false))[H1.length]? = some (.loop .busy .normal L) := by rw [set_ne (by omega), set_ne (by omega)]; exact br
  have kl : ((H3.set (p + 1) (.row [.int .i64 1, .slice none 0 0 0 1 false] 0 0 false)).set (p + 2) (.row [.int .i64 0] 0 0 false)).length = H3.length := by simp
  generalize H3.set (p + 1) (.row [.int .i64 1, .slice none 0 0 0 1 false] 0 0 false) = H5 at *
  generalize H5.set (p + 2) (.row [.int .i64 0] 0 0 false) = H6 at *
  refine L_block ?_
  refine L_regU mixed [true, false, false, false] [2, 3] (by kernel_rfl) (fun K hK => ?_)
  simp [okFn_low, e2, hv3]
  refine ⟨fun _ => .refl _, exX_mk (fun Q hQ => CloneT_nil H3 Q hQ) (.refl _) ?_⟩
  simp [built34 1 (show AV.slice none 0 0 0 1 false = .slice none 0 0 0 1 false from rfl), hst5, hst6]
  apply hK; clear hK K
  refine L_ret ⟨.busy, .normal, L, kr, false, rfl, ?_⟩
  refine ⟨.done, .ret, L, by rw [List.getElem?_set_self (by omega)]; rfl, by simp, ?_⟩
  have c5 : ((H6.set H1.length (.loop (if Ex.ret = .normal then .ready else .done) .ret L)).set H1.length (.loop .exhausted .ret L))[p + 1]? = some (.row [.int .i64 1, .slice none 0 0 0 1 false] 0 0 false) := by rw [set_ne (by omega), set_ne (by omega)]; exact k5
  have c6 : ((H6.set H1.length (.loop (if Ex.ret = .normal then .ready else .done) .ret L)).set H1.length (.loop .exhausted .ret L))[p + 2]? = some (.row [.int .i64 0] 0 0 false) := by rw [set_ne (by omega), set_ne (by omega)]; exact k6
  exact ⟨.inr rfl, _, res2 (v1 := .agg [.int .i64 1, .slice none 0 0 0 1 false]) (v2 := .int .i64 0) rfl (by rw [show eget _ 2 = AV.ptr (p + 1) 0 0 from rfl]; exact ld_two ag34 c5 rfl rfl) (by rw [show eget _ 3 = AV.ptr (p + 2) 0 0 from rfl, ld24, ld_row c6]; rfl), h3 _ ((kE.set _ (by omega)).set _ (by omega))⟩
end Go.Proofs.Ytbimapbcpmeooaa.Cl
