/- Join and Meet among all divisions: the walk. -/
import Derived.Test.YtjaefngmidllgaaLatF
import Derived.Test.YtjaefngmidllgaaMade2
import Derived.Test.YtjaefngmidllgaaJo
import Derived.Test.YtjaefngmidllgaaUni
import Derived.Test.YtjaefngmidllgaaWorks
namespace Go.Proofs.Ytjaefngmidllgaa.St
open Go Go.Proofs.Ytjaefngmidllgaa Go.Proofs.Ytjaefngmidllgaa.AX
set_option maxRecDepth 100000
set_option linter.unusedVariables false
theorem kp_ext {A B : AH} (h : Kp (fun _ => False) A B) : Ext A B := ⟨h.1, fun j hj => h.2 j hj id⟩
set_option maxHeartbeats 8000000 in
theorem lattice_ac {s : List Nat} (hs : s.length = 19 ∧ ∀ x ∈ s, x < 256) (H : AH) : AC Try.prog 11 [.agg (sV s)] H fun v _ => v = .bool true := by
  obtain ⟨x, p, q, rfl, hx, hp, hq, hp2, hq2⟩ := nineteen hs
  clear hs
  refine L_body 157 Try.func11 rfl rfl ?_
  obtain ⟨I22, hI22, hz22⟩ := zeroT_some zt22
  obtain ⟨I29, hI29, hz29⟩ := zeroT_some zt29
  obtain ⟨I4, hI4, hz4⟩ := zeroT_some zt4
  have s22 : ∀ (G : AH) (y : AV), y.one = true → storeV Try.prog 22 (G ++ [AObj.row [.slice none 0 0 0 1 false] 0 0 false]) (.ptr G.length 0 0) y = some (none, G ++ [AObj.row [y] 0 0 false]) := fun G y hy => by
    rw [store_row (c := [.slice none 0 0 0 1 false]) (y := .slice none 0 0 0 1 false) (s := 0) sc22 hy (by simp) rfl]; simp
  have s22a : ∀ (G : AH) (y : AV), y.one = true → storeV Try.prog 22 (G ++ [AObj.row [.slice none 0 0 0 1 false] 0 0 false, AObj.row [.slice none 0 0 0 1 false] 0 0 false]) (.ptr G.length 0 0) y = some (none, G ++ [AObj.row [y] 0 0 false, AObj.row [.slice none 0 0 0 1 false] 0 0 false]) := fun G y hy => by
    rw [store_row (c := [.slice none 0 0 0 1 false]) (y := .slice none 0 0 0 1 false) (s := 0) sc22 hy (by simp) rfl]; simp
  have s22b : ∀ (G : AH) (y z : AV), y.one = true → storeV Try.prog 22 (G ++ [AObj.row [z] 0 0 false, AObj.row [.slice none 0 0 0 1 false] 0 0 false]) (.ptr (G.length + 1) 0 0) y = some (none, G ++ [AObj.row [z] 0 0 false, AObj.row [y] 0 0 false]) := fun G y z hy => by
    rw [store_row (c := [.slice none 0 0 0 1 false]) (y := .slice none 0 0 0 1 false) (s := 0) sc22 hy (by simp) rfl]; simp
  have s29 : ∀ (G : AH), storeV Try.prog 29 (G ++ [AObj.row [.nilfunc] 0 0 false]) (.ptr G.length 0 0) (.func (.func 52) [] []) = some (none, G ++ [AObj.row [.func (.func 52) [] []] 0 0 false]) := fun G => by
    rw [store_row (c := [.nilfunc]) (y := .nilfunc) (s := 0) sc29 rfl (by simp) rfl]; simp
  have s4 : ∀ (G : AH) (y : Bool), storeV Try.prog 4 (G ++ [AObj.row [.bool false] 0 0 false]) (.ptr G.length 0 0) (.bool y) = some (none, G ++ [AObj.row [.bool y] 0 0 false]) := fun G y => by
    rw [store_row (c := [.bool false]) (y := .bool false) (s := 0) sc4 rfl (by simp) rfl]; simp
  refine L_reg [1] (fun K hK => ?_)
  simp [AV.isU, acells]
  apply hK; clear hK K
  have hr : (H ++ [AObj.row (sV (x :: (p ++ q))) 0 0 false])[H.length]? = some (.row (sV (x :: (p ++ q))) 0 0 false) := by simp
  obtain ⟨pl, hpl⟩ : ∃ pl, H.length = pl := ⟨_, rfl⟩
  rw [hpl] at hr ⊢
  generalize H ++ [AObj.row (sV (x :: (p ++ q))) 0 0 false] = H1 at hr ⊢
  have l0 : ldn H1 pl 0 19 0 = some (sV (x :: (p ++ q))) := by
    have := ldn_sV (a := []) (b := x :: (p ++ q)) (c := []) (H := H1) (r := pl) (s := 0) (by simpa using hr)
    rw [show (x :: (p ++ q)).length = 19 by simp; omega] at this; exact this
  have h6 : 1 + x % 6 ≤ 6 := by have := Nat.mod_lt x (show 0 < 6 by decide); omega
  refine L_reg [3, 4] (fun K hK => ?_)
  simp [okFn_low, l0]
  refine made_ac x p q hx hp hq hp2 hq2 6 6 (by omega) (by omega) (by omega) (by omega) H1 _ fun v w H2 hv hw hE2 => ?_
  have hnp : (lbl (1 + x % 6) 6 p).length = 1 + x % 6 := lbl_len hp (by omega)
  have hnq : (lbl (1 + x % 6) 6 q).length = 1 + x % 6 := lbl_len hq (by omega)
  have hA : OkD (dv (lbl (1 + x % 6) 6 p)) := dv_okD _ (by omega) (by omega)
  have hB : OkD (dv (lbl (1 + x % 6) 6 q)) := dv_okD _ (by omega) (by omega)
  have hab : (dv (lbl (1 + x % 6) 6 p)).length = (dv (lbl (1 + x % 6) 6 q)).length := by rw [dv_len, dv_len]; omega
  have ha6 : (dv (lbl (1 + x % 6) 6 p)).length ≤ 6 := by rw [dv_len]; omega
  generalize dv (lbl (1 + x % 6) 6 p) = a at hv hA hab ha6
  generalize dv (lbl (1 + x % 6) 6 q) = b at hw hB hab
  simp [hI22, hz22, s22a, s22b, ls_one hv, ls_one hw]
  apply hK; clear hK K hE2 hr l0 hnp hnq h6
  obtain ⟨pa, hpa⟩ : ∃ pa, H2.length = pa := ⟨_, rfl⟩
  have e3 : Ext H2 (H2 ++ [AObj.row [v] 0 0 false, AObj.row [w] 0 0 false]) := .push _ _
  have ra : (H2 ++ [AObj.row [v] 0 0 false, AObj.row [w] 0 0 false])[pa]? = some (.row [v] 0 0 false) := by rw [← hpa]; simp
  have rb : (H2 ++ [AObj.row [v] 0 0 false, AObj.row [w] 0 0 false])[pa + 1]? = some (.row [w] 0 0 false) := by rw [← hpa]; simp
  have hv := hv.ext e3
  have hw := hw.ext e3
  rw [hpa]
  generalize H2 ++ [AObj.row [v] 0 0 false, AObj.row [w] 0 0 false] = H3 at ra rb hv hw ⊢
  clear e3
  refine L_reg [3, 4, 5] (fun K hK => ?_)
  simp [hI29, hz29, s29]
  apply hK; clear hK K
  obtain ⟨pf, hpf⟩ : ∃ pf, H3.length = pf := ⟨_, rfl⟩
  have e4 : Ext H3 (H3 ++ [AObj.row [.func (.func 52) [] []] 0 0 false]) := .push _ _
  have rf : (H3 ++ [AObj.row [.func (.func 52) [] []] 0 0 false])[pf]? = some (.row [.func (.func 52) [] []] 0 0 false) := by rw [← hpf]; simp
  have ra := e4.row ra
  have rb := e4.row rb
  have hv := hv.ext e4
  have hw := hw.ext e4
  rw [hpf]
  generalize H3 ++ [AObj.row [.func (.func 52) [] []] 0 0 false] = H4 at rf ra rb hv hw ⊢
  clear e4
  have La : ld H4 pa 0 0 = some v := by rw [ld_row ra]; exact ls_known hv
  have Lb : ld H4 (pa + 1) 0 0 = some w := by rw [ld_row rb]; exact ls_known hw
  refine L_reg [3, 4, 5, 6, 7] (fun K hK => ?_)
  simp [okFn_low, La, Lb]
  refine Join_ok hA hB hab v w H4 hv hw _ fun j H5 hj0 hE5 => ?_
  have hj : Ls H5 j (il (jnS a b)) := ownF_ls hj0
  simp [hI22, hz22, s22, ls_one hj]
  apply hK; clear hK K hj0
  obtain ⟨pj, hpj⟩ : ∃ pj, H5.length = pj := ⟨_, rfl⟩
  have e6 : Ext H5 (H5 ++ [AObj.row [j] 0 0 false]) := .push _ _
  have rj : (H5 ++ [AObj.row [j] 0 0 false])[pj]? = some (.row [j] 0 0 false) := by rw [← hpj]; simp
  have e46 := hE5.trans e6
  have rf := e46.row rf
  have ra := e46.row ra
  have rb := e46.row rb
  have hv := hv.ext e46
  have hw := hw.ext e46
  have hj := hj.ext e6
  rw [hpj]
  generalize H5 ++ [AObj.row [j] 0 0 false] = H6 at rf ra rb rj hv hw hj ⊢
  clear e6 e46 La Lb hE5
  have La : ld H6 pa 0 0 = some v := by rw [ld_row ra]; exact ls_known hv
  have Lb : ld H6 (pa + 1) 0 0 = some w := by rw [ld_row rb]; exact ls_known hw
  refine L_reg [3, 4, 5, 6, 7, 8, 9] (fun K hK => ?_)
  simp [okFn_low, La, Lb]
  refine Meet_ok hA hB hab v w H6 hv hw _ fun m H7 hm0 hE7 => ?_
  have hm : Ls H7 m (il (mtS a b)) := ownF_ls hm0
  simp [hI22, hz22, s22, ls_one hm]
  apply hK; clear hK K hm0
  obtain ⟨pm, hpm⟩ : ∃ pm, H7.length = pm := ⟨_, rfl⟩
  have e8 : Ext H7 (H7 ++ [AObj.row [m] 0 0 false]) := .push _ _
  have rm : (H7 ++ [AObj.row [m] 0 0 false])[pm]? = some (.row [m] 0 0 false) := by rw [← hpm]; simp
  have e68 := hE7.trans e8
  have rf := e68.row rf
  have ra := e68.row ra
  have rb := e68.row rb
  have rj := e68.row rj
  have hv := hv.ext e68
  have hw := hw.ext e68
  have hj := hj.ext e68
  have hm := hm.ext e8
  rw [hpm]
  generalize H7 ++ [AObj.row [m] 0 0 false] = H8 at rf ra rb rj rm hv hw hj hm ⊢
  clear e8 e68 La Lb hE7
  have La : ld H8 pa 0 0 = some v := by rw [ld_row ra]; exact ls_known hv
  have Lb : ld H8 (pa + 1) 0 0 = some w := by rw [ld_row rb]; exact ls_known hw
  refine L_reg [3, 4, 5, 6, 7, 8, 9, 10, 11] (fun K hK => ?_)
  simp [okFn_low, La, Lb]
  refine Finer_ok hA hB hab v w H8 hv hw _ fun H9 hE9 => ?_
  simp
  apply hK; clear hK K
  have rf := hE9.row rf
  have ra := hE9.row ra
  have rb := hE9.row rb
  have rj := hE9.row rj
  have rm := hE9.row rm
  have hv := hv.ext hE9
  have hw := hw.ext hE9
  have hj := hj.ext hE9
  have hm := hm.ext hE9
  clear La Lb hE9
  have La : ld H9 pa 0 0 = some v := by rw [ld_row ra]; exact ls_known hv
  have Lb : ld H9 (pa + 1) 0 0 = some w := by rw [ld_row rb]; exact ls_known hw
  have Lj : ld H9 pj 0 0 = some j := by rw [ld_row rj]; exact ls_known hj
  have Lm : ld H9 pm 0 0 = some m := by rw [ld_row rm]; exact ls_known hm
  have Lf : ld H9 pf 0 0 = some (.func (.func 52) [] []) := by rw [ld_row rf]; rfl
  have hjl := jn_len a b
  have hml := mt_len hab
  have hJ : OkD (jnS a b) := dv_okD _ (by rw [JL_len]; exact hA.pos) (by rw [JL_len]; omega)
  have hM : OkD (mtS a b) := dv_okD _ (by rw [prs_len hab]; exact hA.pos) (by rw [prs_len hab]; omega)
  have va := ils_len hv
  have vb := ils_len hw
  have vj := ils_len hj
  have vm := ils_len hm
  rw [hjl] at vj
  rw [hml] at vm
  have k1 := jn_up1 hab
  have k2 := jn_up2 hab
  have k3 := mt_dn1 hab
  have k4 := mt_dn2 hab
  have kJ := fun h => jn_self hab hB h
  have kM := fun h => mt_self hab hA h
  have q1 := fin_q a b hab (by omega) v w H9 hv hw
  have q2 := fin_q a (jnS a b) (by omega) (by omega) v j H9 hv hj
  have q3 := fin_q b (jnS a b) (by omega) (by omega) w j H9 hw hj
  have q4 := fin_q (mtS a b) a (by omega) (by omega) m v H9 hm hv
  have q5 := fin_q (mtS a b) b (by omega) (by omega) m w H9 hm hw
  rw [k1] at q2
  rw [k2] at q3
  rw [k3] at q4
  rw [k4] at q5
  have g1 := Check_q (il (jnS a b)) j (il9 hJ) H9 hj
  have g2 := Check_q (il (mtS a b)) m (il9 hM) H9 hm
  rw [chk_il hJ] at g1
  rw [chk_il hM] at g2
  have own : jnS (mtS a b) a = a := jn_self hml hA k3
  have back : mtS (jnS a b) b = b := mt_sym (by omega) hB k2
  have hok52 : okFn Try.prog 52 = true := by kernel_rfl
  generalize finB a b = is at q1 kJ kM
  have hne : ∀ l, binV Try.prog .neq 4 l (.bool is) (.bool is) = some (.bool false) := fun l => by cases is <;> (cases l <;> kernel_rfl)
  refine L_reg [3, 4, 5, 6, 8, 10, 79] (fun K hK => ?_)
  simp [okFn_low, pickV, La, Lj, Lm, va, vj, vm]
  refine g1 _ ?_
  simp [okFn_low, pickV, Lm]
  refine g2 _ ?_
  simp [hok52, pickV, La, Lb, Lf]
  refine q1 _ ?_
  simp [pickV, hne]
  apply hK; clear hK K
  refine L_false (by simp) ?_
  refine L_reg [3, 4, 5, 6, 8, 10, 105] (fun K hK => ?_)
  simp [hok52, La, Lj, Lf]
  refine q2 _ ?_
  simp [hok52, Lb, Lj, Lf]
  refine q3 _ ?_
  simp [hok52, pickV, La, Lm, Lf]
  refine q4 _ ?_
  simp [hok52, pickV, Lb, Lm, Lf]
  refine q5 _ ?_
  simp [pickV]
  apply hK; clear hK K
  refine L_false (by simp) ?_
  refine L_reg [3, 4, 5, 6, 8, 10, 12] (fun K hK => ?_)
  simp [hI4, hz4, s4]
  apply hK; clear hK K
  obtain ⟨pg, hpg⟩ : ∃ pg, H9.length = pg := ⟨_, rfl⟩
  have eA : Ext H9 (H9 ++ [AObj.row [.bool true] 0 0 false]) := .push _ _
  have rG : (H9 ++ [AObj.row [.bool true] 0 0 false])[pg]? = some (.row [.bool true] 0 0 false) := by rw [← hpg]; simp
  have rf := eA.row rf
  have ra := eA.row ra
  have rb := eA.row rb
  have rj := eA.row rj
  have rm := eA.row rm
  have hv := hv.ext eA
  have hw := hw.ext eA
  have hj := hj.ext eA
  have hm := hm.ext eA
  rw [hpg]
  generalize H9 ++ [AObj.row [.bool true] 0 0 false] = HA at rG rf ra rb rj rm hv hw hj hm ⊢
  clear eA La Lb Lj Lm Lf q1 q2 q3 q4 q5 g1 g2
  have La : ld HA pa 0 0 = some v := by rw [ld_row ra]; exact ls_known hv
  have hS : SL pf pa (pa + 1) pj pm pg a b (jnS a b) (mtS a b) v w j m HA := ⟨⟨0, rf⟩, ⟨0, ra⟩, ⟨0, rb⟩, ⟨0, rj⟩, ⟨0, rm⟩, hv, hw, hj, hm⟩
  have hV := visL_ok pf pa (pa + 1) pj pm pg a.length HA.length hA.pos hA.len a b rfl hab v w j m
  refine L_reg [3, 4, 6, 8, 10, 12] (fun K hK => ?_)
  simp [okFn_low, La, va]
  refine all_ac hV hA.len () HA _ (Nat.le_refl _) hS fun HB hSB hKB => ?_
  simp
  apply hK; clear hK K
  have eB := kp_ext hKB
  have rG := eB.row rG
  have ra := eB.row ra
  have rb := eB.row rb
  have rj := eB.row rj
  have rm := eB.row rm
  have hv := hv.ext eB
  have hw := hw.ext eB
  have hj := hj.ext eB
  have hm := hm.ext eB
  clear La hS hV hSB hKB eB
  have La : ld HB pa 0 0 = some v := by rw [ld_row ra]; exact ls_known hv
  have Lb : ld HB (pa + 1) 0 0 = some w := by rw [ld_row rb]; exact ls_known hw
  have Lj : ld HB pj 0 0 = some j := by rw [ld_row rj]; exact ls_known hj
  have Lm : ld HB pm 0 0 = some m := by rw [ld_row rm]; exact ls_known hm
  have s1 := sameN_q j w (jnS a b) b (by omega) (by omega) HB hj hw
  have s2 := sameN_q m v (mtS a b) a (by omega) (by omega) HB hm hv
  refine L_reg [3, 4, 6, 8, 12, 122] (fun K hK => ?_)
  suffices hk : K [(3, .ptr pa 0 0), (4, .ptr (pa + 1) 0 0), (6, .ptr pj 0 0), (8, .ptr pm 0 0), (12, .ptr pg 0 0), (122, .bool false)] HB by
    cases is with
    | false => simp [okFn_low, pickV, La, Lm]; exact hk
    | true =>
      rw [kJ rfl] at s1
      rw [kM rfl] at s2
      simp [okFn_low, Lb, Lj]
      refine s1 _ ?_
      simp [okFn_low, La, Lm]
      refine s2 _ ?_
      simp [pickV]
      exact hk
  apply hK; clear hK K s1 s2
  refine L_false rfl ?_
  refine L_reg [3, 4, 6, 7, 12, 13] (fun K hK => ?_)
  simp [okFn_low, La, Lm]
  refine Join_ok hM hA hml m v HB hm hv _ fun o HC ho0 hEC => ?_
  have ho : Ls HC o (il (jnS (mtS a b) a)) := ownF_ls ho0
  rw [own] at ho
  simp
  apply hK; clear hK K ho0
  have hv := hv.ext hEC
  have hw := hw.ext hEC
  have hj := hj.ext hEC
  have La := hEC.ld La
  have Lb := hEC.ld Lb
  have Lj := hEC.ld Lj
  have rG := hEC.row rG
  clear hm Lm ra rb rj rm
  refine L_reg [3, 4, 7, 9, 12, 13, 14] (fun K hK => ?_)
  simp [okFn_low, Lb, Lj]
  refine Meet_ok hJ hB (by omega) j w HC hj hw _ fun t HD ht0 hED => ?_
  have ht : Ls HD t (il (mtS (jnS a b) b)) := ownF_ls ht0
  rw [back] at ht
  simp
  apply hK; clear hK K ht0
  have hv := hv.ext hED
  have hw := hw.ext hED
  have ho := ho.ext hED
  have La := hED.ld La
  have Lb := hED.ld Lb
  have rG := hED.row rG
  have Lg : ld HD pg 0 0 = some (.bool true) := by rw [ld_row rG]; rfl
  have s1 := sameN_q o v a a (by omega) (by omega) HD ho hv
  have s2 := sameN_q t w b b (by omega) (by omega) HD ht hw
  refine L_reg [2] (fun K hK => ?_)
  simp [okFn_low, pickV, La, Lg]
  refine s1 _ ?_
  simp [okFn_low, pickV, Lb]
  refine s2 _ ?_
  simp [okFn_low, pickV]
  refine works_ac _ _ ?_
  simp [pickV]
  apply hK; clear hK K
  exact L_ret ⟨.inr rfl, _, rfl, rfl⟩
end Go.Proofs.Ytjaefngmidllgaa.St
