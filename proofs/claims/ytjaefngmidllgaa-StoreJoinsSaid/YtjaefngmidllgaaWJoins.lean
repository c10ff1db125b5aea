/- Finer, Join and Meet are as the reference says: the walk. -/
import Derived.Test.YtjaefngmidllgaaJoR
import Derived.Test.YtjaefngmidllgaaWorks
namespace Go.Proofs.Ytjaefngmidllgaa.St
open Go Go.Proofs.Ytjaefngmidllgaa Go.Proofs.Ytjaefngmidllgaa.AX
set_option maxRecDepth 100000
set_option linter.unusedVariables false
def two (u v : AV) (a b : List Int) (H : AH) : Prop := Ls H u a ∧ Ls H v b
theorem Finer_u (a b : List Int) (u v : AV) (hla : a.length ≤ 1000) (hlb : b.length ≤ 1000) : ∃ x e, AnsV [29, 30] [u, v] (two u v a b) (.tuple [.bool x, .int .i64 e]) := by
  by_cases c : prE a b = 0
  · obtain ⟨d, e, rfl, rfl, hd, he, hl⟩ := pr_ok c
    refine ⟨finB d e, 0, fun F hF H hH Q h => ?_⟩
    simp only [List.mem_cons, List.not_mem_nil, or_false] at hF
    rcases hF with rfl | rfl
    · exact Finer_ok hd he hl u v H hH.1 hH.2 Q h
    · exact FinerR_ok hd he hl u v H hH.1 hH.2 Q (h H (.refl _))
  · exact ⟨false, prE a b, fun F hF H hH Q h => Finer_bad F (by simpa using hF) a b u v (by omega) (by omega) c H hH.1 hH.2 Q (h H (.refl _))⟩
theorem Join_u (a b : List Int) (u v : AV) (hla : a.length ≤ 1000) (hlb : b.length ≤ 1000) : ∃ L e, AnsL [31, 32] [u, v] (two u v a b) L e := by
  by_cases c : prE a b = 0
  · obtain ⟨d, e, rfl, rfl, hd, he, hl⟩ := pr_ok c
    have h9 := hd.len
    refine ⟨il (dv (JL d e d.length)), 0, by rw [il_len, dv_len, JL_len]; omega, fun F hF H hH Q h => ?_⟩
    simp only [List.mem_cons, List.not_mem_nil, or_false] at hF
    rcases hF with rfl | rfl
    · exact Join_ok hd he hl u v H hH.1 hH.2 Q fun v' H' ho hE => h v' H' (ownF_ls ho) hE
    · exact JoinR_ok hd he hl u v H hH.1 hH.2 Q fun v' H' ho hE => h v' H' (ownF_ls ho) hE
  · refine ⟨[], prE a b, by simp, fun F hF H hH Q h => ?_⟩
    simp only [List.mem_cons, List.not_mem_nil, or_false] at hF
    exact Pair_bad F (by rcases hF with rfl | rfl <;> simp) a b u v (by omega) (by omega) c H hH.1 hH.2 Q (h nilS H (Ls.nil H) (.refl _))
theorem Meet_u (a b : List Int) (u v : AV) (hla : a.length ≤ 1000) (hlb : b.length ≤ 1000) : ∃ L e, AnsL [33, 34] [u, v] (two u v a b) L e := by
  by_cases c : prE a b = 0
  · obtain ⟨d, e, rfl, rfl, hd, he, hl⟩ := pr_ok c
    have h9 := hd.len
    refine ⟨il (dv (prs d e)), 0, by rw [il_len, dv_len, prs_len hl]; omega, fun F hF H hH Q h => ?_⟩
    simp only [List.mem_cons, List.not_mem_nil, or_false] at hF
    rcases hF with rfl | rfl
    · exact Meet_ok hd he hl u v H hH.1 hH.2 Q fun v' H' ho hE => h v' H' (ownF_ls ho) hE
    · exact MeetR_ok hd he hl u v H hH.1 hH.2 Q fun v' H' ho hE => h v' H' (ownF_ls ho) hE
  · refine ⟨[], prE a b, by simp, fun F hF H hH Q h => ?_⟩
    simp only [List.mem_cons, List.not_mem_nil, or_false] at hF
    exact Pair_bad F (by rcases hF with rfl | rfl <;> simp) a b u v (by omega) (by omega) c H hH.1 hH.2 Q (h nilS H (Ls.nil H) (.refl _))
set_option maxHeartbeats 4000000 in
theorem joins_ac (a b : List Int) (u v : AV) (H : AH) (hu : Ls H u a) (hv : Ls H v b) : AC Try.prog 4 [u, v] H fun r _ => r = .bool true := by
  refine L_body 93 Try.func4 rfl rfl ?_
  have hul := ls_len hu
  have hvl := ls_len hv
  refine L_reg [0, 1] (fun K hK => ?_)
  simp
  apply hK; clear hK K
  by_cases hA : 60 < a.length
  · refine L_reg [0, 1, 24] (fun K hK => ?_)
    simp [hul, pickV, show (60 : Int) < (a.length : Int) by omega]
    apply hK; clear hK K
    refine L_true rfl ?_
    refine L_reg [4] (fun K hK => ?_)
    simp [okFn_low]
    refine works_ac _ _ ?_
    simp
    apply hK; clear hK K
    exact L_ret ⟨.inr rfl, _, rfl, rfl⟩
  by_cases hB : 60 < b.length
  · refine L_reg [0, 1, 24] (fun K hK => ?_)
    simp [hul, hvl, pickV, show ¬ (60 : Int) < (a.length : Int) by omega, show (60 : Int) < (b.length : Int) by omega]
    apply hK; clear hK K
    refine L_true rfl ?_
    refine L_reg [4] (fun K hK => ?_)
    simp [okFn_low]
    refine works_ac _ _ ?_
    simp
    apply hK; clear hK K
    exact L_ret ⟨.inr rfl, _, rfl, rfl⟩
  refine L_reg [0, 1, 24] (fun K hK => ?_)
  simp [hul, hvl, pickV, show ¬ (60 : Int) < (a.length : Int) by omega, show ¬ (60 : Int) < (b.length : Int) by omega]
  apply hK; clear hK K
  refine L_false rfl ?_
  obtain ⟨x1, e1, A1⟩ := Finer_u a b u v (by omega) (by omega)
  obtain ⟨L2, e2, hz2, A2⟩ := Join_u a b u v (by omega) (by omega)
  obtain ⟨L3, e3, hz3, A3⟩ := Meet_u a b u v (by omega) (by omega)
  have h0 : two u v a b H := ⟨hu, hv⟩
  clear hul hvl
  refine L_reg [0, 1, 5, 6] (fun K hK => ?_)
  simp [okFn_low]
  refine A1 29 (by simp) _ h0 _ fun H1 hE1 => ?_
  simp
  apply hK; clear hK K
  have h0 : two u v a b H1 := ⟨h0.1.ext hE1, h0.2.ext hE1⟩
  refine L_reg [0, 1, 5, 6, 7, 8] (fun K hK => ?_)
  simp [okFn_low]
  refine A1 30 (by simp) _ h0 _ fun H2 hE2 => ?_
  simp
  apply hK; clear hK K
  have h0 : two u v a b H2 := ⟨h0.1.ext hE2, h0.2.ext hE2⟩
  refine L_reg [0, 1, 5, 6, 7, 8, 9, 10] (fun K hK => ?_)
  simp [okFn_low]
  refine A2 31 (by simp) _ h0 _ fun w2 H3 l2 hE3 => ?_
  simp
  apply hK; clear hK K
  have h0 : two u v a b H3 := ⟨h0.1.ext hE3, h0.2.ext hE3⟩
  refine L_reg [0, 1, 5, 6, 7, 8, 9, 10, 11, 12] (fun K hK => ?_)
  simp [okFn_low]
  refine A2 32 (by simp) _ h0 _ fun w3 H4 l3 hE4 => ?_
  simp
  apply hK; clear hK K
  have h0 : two u v a b H4 := ⟨h0.1.ext hE4, h0.2.ext hE4⟩
  have l2 := l2.ext hE4
  refine L_reg [0, 1, 5, 6, 7, 8, 9, 10, 11, 12, 13, 14] (fun K hK => ?_)
  simp [okFn_low]
  refine A3 33 (by simp) _ h0 _ fun w4 H5 l4 hE5 => ?_
  simp
  apply hK; clear hK K
  have h0 : two u v a b H5 := ⟨h0.1.ext hE5, h0.2.ext hE5⟩
  have l2 := l2.ext hE5
  have l3 := l3.ext hE5
  refine L_reg [5, 6, 7, 8, 9, 10, 11, 12, 13, 14, 15, 16] (fun K hK => ?_)
  simp [okFn_low]
  refine A3 34 (by simp) _ h0 _ fun w5 H6 l5 hE6 => ?_
  simp
  apply hK; clear hK K
  have h0 : two u v a b H6 := ⟨h0.1.ext hE6, h0.2.ext hE6⟩
  have l2 := l2.ext hE6
  have l3 := l3.ext hE6
  have l4 := l4.ext hE6
  refine L_reg [4] (fun K hK => ?_)
  simp [okFn_low, pickV, b_eqlB Try.underlying4]
  refine same_q w2 w3 L2 L2 (by omega) (by omega) _ l2 l3 _ ?_
  simp [okFn_low, pickV]
  refine same_q w4 w5 L3 L3 (by omega) (by omega) _ l4 l5 _ ?_
  simp [okFn_low, pickV]
  refine works_ac _ _ ?_
  simp [pickV]
  apply hK; clear hK K
  exact L_ret ⟨.inr rfl, _, rfl, rfl⟩
end Go.Proofs.Ytjaefngmidllgaa.St
