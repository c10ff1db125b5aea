/- Crossings, nestings and divisions of gaps are as the reference says: the walk. -/
import Derived.Test.YtjaefngmidllgaaOwn
import Derived.Test.YtjaefngmidllgaaFltP
import Derived.Test.YtjaefngmidllgaaUni
import Derived.Test.YtjaefngmidllgaaWorks
namespace Go.Proofs.Ytjaefngmidllgaa.St
open Go Go.Proofs.Ytjaefngmidllgaa Go.Proofs.Ytjaefngmidllgaa.AX
set_option maxRecDepth 100000
set_option linter.unusedVariables false
theorem Arcs_u (l : List Int) (v : AV) (hlen : l.length ≤ 1000) : ∃ x y e, AnsV [35, 36] [v] (fun H => Ls H v l) (.tuple [.int .i64 x, .int .i64 y, .int .i64 e]) := by
  by_cases c : chk l = 0
  · obtain ⟨d, rfl, hd⟩ := chk_ok c
    exact ⟨(crS d : Nat), (neS d : Nat), 0, fun F hF H hv Q h => Arcs_ok F (by simpa using hF) hd v H hv Q h⟩
  · exact ⟨0, 0, chk l, fun F hF H hv Q h => Arcs_bad F (by simpa using hF) l v (by omega) c H hv Q (h H (.refl _))⟩
theorem Gaps_u (l : List Int) (v : AV) (hlen : l.length ≤ 1000) : ∃ L e, AnsL [39, 40] [v] (fun H => Ls H v l) L e := by
  by_cases c : chk l = 0
  · obtain ⟨d, rfl, hd⟩ := chk_ok c
    have h9 := hd.len
    by_cases c2 : crS d = 0
    · refine ⟨il (gp d), 0, by rw [il_len, gp_len]; omega, fun F hF H hv Q h => ?_⟩
      exact Gaps_ok F (by simpa using hF) hd c2 v H hv Q fun v' H' ho hE => h v' H' (ownF_ls ho) hE
    · refine ⟨[], 13, by simp, fun F hF H hv Q h => ?_⟩
      simp only [List.mem_cons, List.not_mem_nil, or_false] at hF
      exact Gaps_clash F (by rcases hF with rfl | rfl <;> simp) hd c2 v H hv Q fun H' hE => h nilS H' (Ls.nil H') hE
  · refine ⟨[], chk l, by simp, fun F hF H hv Q h => ?_⟩
    simp only [List.mem_cons, List.not_mem_nil, or_false] at hF
    exact Gaps_bad F (by rcases hF with rfl | rfl <;> simp) l v (by omega) c H hv Q (h nilS H (Ls.nil H) (.refl _))
theorem Back_u (l : List Int) (v : AV) (hlen : l.length ≤ 1000) : ∃ L e, AnsL [41, 42] [v] (fun H => Ls H v l) L e := by
  by_cases c : chk l = 0
  · obtain ⟨d, rfl, hd⟩ := chk_ok c
    have h9 := hd.len
    by_cases c2 : crS d = 0
    · refine ⟨il (owS d), 0, by rw [il_len, owS_eq, dv_len, shG_len]; omega, fun F hF H hv Q h => ?_⟩
      exact Back_ok F (by simpa using hF) hd c2 v H hv Q fun v' H' ho hE => h v' H' (ownF_ls ho) hE
    · refine ⟨[], 13, by simp, fun F hF H hv Q h => ?_⟩
      simp only [List.mem_cons, List.not_mem_nil, or_false] at hF
      exact Gaps_clash F (by rcases hF with rfl | rfl <;> simp) hd c2 v H hv Q fun H' hE => h nilS H' (Ls.nil H') hE
  · refine ⟨[], chk l, by simp, fun F hF H hv Q h => ?_⟩
    simp only [List.mem_cons, List.not_mem_nil, or_false] at hF
    exact Gaps_bad F (by rcases hF with rfl | rfl <;> simp) l v (by omega) c H hv Q (h nilS H (Ls.nil H) (.refl _))
set_option maxHeartbeats 4000000 in
theorem gaps_law (l : List Int) (v : AV) (n : Int) (H : AH) (hv : Ls H v l) : AC Try.prog 5 [v, .int .i64 n] H fun r _ => r = .bool true := by
  refine L_body 109 Try.func5 rfl rfl ?_
  have hvl := ls_len hv
  refine L_reg [0, 1] (fun K hK => ?_)
  simp
  apply hK; clear hK K
  refine L_reg [0, 1, 21] (fun K hK => ?_)
  simp [hvl]
  apply hK; clear hK K
  by_cases hL : 60 < l.length
  · refine L_true (by simp; omega) ?_
    refine L_reg [4] (fun K hK => ?_)
    simp [okFn_low]
    refine works_ac _ _ ?_
    simp
    apply hK; clear hK K
    exact L_ret ⟨.inr rfl, _, rfl, rfl⟩
  refine L_false (by simp; omega) ?_
  have hlen : l.length ≤ 1000 := by omega
  clear hvl
  obtain ⟨x1, y1, e1, A1⟩ := Arcs_u l v hlen
  obtain ⟨L2, e2, hz2, A2⟩ := Gaps_u l v hlen
  obtain ⟨L3, e3, hz3, A3⟩ := Back_u l v hlen
  refine L_reg [0, 1, 5, 6, 7] (fun K hK => ?_)
  simp [okFn_low]
  refine A1 35 (by simp) _ hv _ fun H1 hE1 => ?_
  simp
  apply hK; clear hK K
  have hv := hv.ext hE1
  refine L_reg [0, 1, 5, 6, 7, 8, 9, 10] (fun K hK => ?_)
  simp [okFn_low]
  refine A1 36 (by simp) _ hv _ fun H2 hE2 => ?_
  simp
  apply hK; clear hK K
  have hv := hv.ext hE2
  refine L_reg [0, 1, 5, 6, 7, 8, 9, 10, 11, 12] (fun K hK => ?_)
  simp [okFn_low]
  refine Flat_q n _ _ fun H3 hE3 => ?_
  simp
  apply hK; clear hK K
  have hv := hv.ext hE3
  refine L_reg [0, 5, 6, 7, 8, 9, 10, 11, 12, 13, 14] (fun K hK => ?_)
  simp [okFn_low]
  refine FlatR_q n _ _ fun H4 hE4 => ?_
  simp
  apply hK; clear hK K
  have hv := hv.ext hE4
  refine L_reg [0, 67] (fun K hK => ?_)
  simp [pickV]
  apply hK; clear hK K
  refine L_false rfl ?_
  refine L_reg [0, 7, 15] (fun K hK => ?_)
  simp [okFn_low]
  refine A2 39 (by simp) _ hv _ fun a H5 la hE5 => ?_
  simp
  apply hK; clear hK K
  have hv := hv.ext hE5
  refine L_reg [0, 7, 10, 15, 16] (fun K hK => ?_)
  simp [okFn_low]
  refine A2 40 (by simp) _ hv _ fun b H6 lb hE6 => ?_
  simp
  apply hK; clear hK K
  have hv := hv.ext hE6
  have la := la.ext hE6
  refine L_reg [0, 7, 10, 12, 15, 16, 17] (fun K hK => ?_)
  simp [okFn_low]
  refine A3 41 (by simp) _ hv _ fun c H7 lc hE7 => ?_
  simp
  apply hK; clear hK K
  have hv := hv.ext hE7
  have la := la.ext hE7
  have lb := lb.ext hE7
  refine L_reg [7, 10, 12, 14, 15, 16, 17, 18] (fun K hK => ?_)
  simp [okFn_low]
  refine A3 42 (by simp) _ hv _ fun d H8 ld hE8 => ?_
  simp
  apply hK; clear hK K
  have hv := hv.ext hE8
  have la := la.ext hE8
  have lb := lb.ext hE8
  have lc := lc.ext hE8
  refine L_reg [4] (fun K hK => ?_)
  simp [okFn_low]
  refine same_q a b L2 L2 (by omega) (by omega) _ la lb _ ?_
  simp [okFn_low, pickV]
  refine same_q c d L3 L3 (by omega) (by omega) _ lc ld _ ?_
  simp [okFn_low, pickV]
  refine works_ac _ _ ?_
  simp [pickV]
  apply hK; clear hK K
  exact L_ret ⟨.inr rfl, _, rfl, rfl⟩
end Go.Proofs.Ytjaefngmidllgaa.St
