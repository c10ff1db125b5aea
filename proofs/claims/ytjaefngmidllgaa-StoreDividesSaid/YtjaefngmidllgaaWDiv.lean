/- Divisions are checked, made, counted and numbered as the reference says: the walk. -/
import Derived.Test.YtjaefngmidllgaaUni
import Derived.Test.YtjaefngmidllgaaWorks
namespace Go.Proofs.Ytjaefngmidllgaa.St
open Go Go.Proofs.Ytjaefngmidllgaa Go.Proofs.Ytjaefngmidllgaa.AX
set_option maxRecDepth 100000
set_option linter.unusedVariables false
set_option maxHeartbeats 4000000 in
theorem divides_ac (l : List Int) (v : AV) (n k x : Int) (H : AH) (hv : Ls H v l) : AC Try.prog 3 [v, .int .i64 n, .int .i64 k, .int .i64 x] H fun r _ => r = .bool true := by
  refine L_body 136 Try.func3 rfl rfl ?_
  have hvl := ls_len hv
  refine L_reg [0, 1, 2, 3] (fun K hK => ?_)
  simp
  apply hK; clear hK K
  refine L_reg [0, 1, 2, 3, 23] (fun K hK => ?_)
  simp [hvl]
  apply hK; clear hK K
  by_cases hL : 60 < l.length
  · refine L_true (by simp; omega) ?_
    refine L_reg [8] (fun K hK => ?_)
    simp [okFn_low]
    refine works_ac _ _ ?_
    simp
    apply hK; clear hK K
    exact L_ret ⟨.inr rfl, _, rfl, rfl⟩
  refine L_false (by simp; omega) ?_
  have hlen : l.length ≤ 1000 := by omega
  obtain ⟨L1, e1, hz1, A1⟩ := Of_u l v hlen
  obtain ⟨x2, e2, A2⟩ := Number_u l v hlen
  obtain ⟨L3, e3, hz3, A3⟩ := At_u n x
  refine L_reg [0, 1, 2, 3, 9, 10] (fun K hK => ?_)
  simp [okFn_low]
  refine A1 16 (by simp) _ hv _ fun a H1 la hE1 => ?_
  simp
  apply hK; clear hK K
  have hv1 := hv.ext hE1
  refine L_reg [0, 1, 2, 3, 9, 10, 11, 12] (fun K hK => ?_)
  simp [okFn_low]
  refine A1 17 (by simp) _ hv1 _ fun b H2 lb hE2 => ?_
  simp
  apply hK; clear hK K
  have hv2 := hv1.ext hE2
  have la := la.ext hE2
  refine L_reg [0, 1, 2, 3, 9, 10, 11, 12, 13, 14] (fun K hK => ?_)
  simp [okFn_low]
  refine A2 18 (by simp) _ hv2 _ fun H3 hE3 => ?_
  simp
  apply hK; clear hK K
  have hv3 := hv2.ext hE3
  have la := la.ext hE3
  have lb := lb.ext hE3
  refine L_reg [0, 1, 2, 3, 9, 10, 11, 12, 13, 14, 15, 16] (fun K hK => ?_)
  simp [okFn_low]
  refine A2 19 (by simp) _ hv3 _ fun H4 hE4 => ?_
  simp
  apply hK; clear hK K
  have hv4 := hv3.ext hE4
  have la := la.ext hE4
  have lb := lb.ext hE4
  refine L_reg [1, 2, 3, 70] (fun K hK => ?_)
  simp [okFn_low]
  refine same_q a b L1 L1 (by omega) (by omega) _ la lb _ ?_
  simp [okFn_low, pickV]
  refine Check_q l v (by omega) _ hv4 _ ?_
  simp [okFn_low]
  refine CheckR_q l v (by omega) _ hv4 _ ?_
  simp [pickV]
  apply hK; clear hK K
  refine L_false rfl ?_
  refine L_reg [1, 2, 3, 13, 14] (fun K hK => ?_)
  simp [okFn_low]
  refine Count_q 23 (.inl rfl) n _ _ ?_
  simp
  apply hK; clear hK K
  refine L_reg [1, 2, 3, 13, 14, 15, 16] (fun K hK => ?_)
  simp [okFn_low]
  refine Count_q 24 (.inr rfl) n _ _ ?_
  simp
  apply hK; clear hK K
  refine L_reg [1, 2, 3, 13, 14, 15, 16, 17, 18] (fun K hK => ?_)
  simp [okFn_low]
  refine Into_q 25 (.inl rfl) n k _ _ ?_
  simp
  apply hK; clear hK K
  refine L_reg [1, 3, 13, 14, 15, 16, 17, 18, 19, 20] (fun K hK => ?_)
  simp [okFn_low]
  refine Into_q 26 (.inr rfl) n k _ _ ?_
  simp
  apply hK; clear hK K
  clear la lb
  refine L_reg [1, 3, 9, 10, 13, 14, 15, 16, 17, 18, 19, 20] (fun K hK => ?_)
  simp [okFn_low]
  refine A3 27 (by simp) _ trivial _ fun c H5 lc hE5 => ?_
  simp
  apply hK; clear hK K
  refine L_reg [9, 10, 11, 12, 13, 14, 15, 16, 17, 18, 19, 20] (fun K hK => ?_)
  simp [okFn_low]
  refine A3 28 (by simp) _ trivial _ fun d H6 ld hE6 => ?_
  simp
  apply hK; clear hK K
  have lc := lc.ext hE6
  refine L_reg [8] (fun K hK => ?_)
  simp [okFn_low, pickV]
  refine same_q c d L3 L3 (by omega) (by omega) _ lc ld _ ?_
  simp [okFn_low, pickV]
  refine works_ac _ _ ?_
  simp [pickV]
  apply hK; clear hK K
  exact L_ret ⟨.inr rfl, _, rfl, rfl⟩
end Go.Proofs.Ytjaefngmidllgaa.St
