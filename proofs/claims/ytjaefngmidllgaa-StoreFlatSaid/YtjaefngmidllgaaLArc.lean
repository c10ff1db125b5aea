/- The law's own count of crossings and nestings. -/
import Derived.Test.YtjaefngmidllgaaArcR
namespace Go.Proofs.Ytjaefngmidllgaa.St
open Go Go.Proofs.Ytjaefngmidllgaa Go.Proofs.Ytjaefngmidllgaa.AX
set_option maxRecDepth 100000
set_option linter.unusedVariables false
set_option maxHeartbeats 2000000 in
theorem larcs_ac {d : List Nat} (h9 : d.length ≤ 9) (v : AV) (H : AH) (hv : Ls H v (il d)) (Q : AV → AH → Prop) (h : ∀ H', Ext H H' → Q (.tuple [.int .i64 (crS d : Nat), .int .i64 (neS d : Nat)]) H') : AC Try.prog 45 [v] H Q := by
  have hvl := ils_len hv
  refine L_body 79 Try.func45 rfl rfl ?_
  refine L_reg [0, 2, 3] (fun K hK => ?_)
  simp
  apply hK; clear hK K
  refine L_reg [0, 2, 3, 4] (fun K hK => ?_)
  simp
  apply hK; clear hK K
  refine L_reg [0, 2, 3, 4, 12, 13, 14] (fun K hK => ?_)
  simp [hvl]
  apply hK; clear hK K
  refine L_block (L_loopV [4, 14] (fun q vs H' => ∃ (i : Nat) (u : AV) (A : List (Nat × Nat)), q = d.length - i ∧ i ≤ d.length ∧ A.length ≤ i ∧ vs = [u, .int .i64 i] ∧ Ext H H' ∧ OwnK 2 H.length H' u (acs A) ∧ arcsL 0 d = A ++ arcsL i (d.drop i)) _ [.slice none 0 0 0 1 false, .int .i64 (0 : Nat)] rfl ⟨0, _, [], rfl, by omega, by simp, rfl, .refl _, OwnK.nil _ _ _, rfl⟩ ?_)
  rintro q _ H1 ⟨i, u, A, rfl, hi, hA, rfl, hE, ho, hc⟩
  have hv1 := hv.ext hE
  refine L_reg [0, 2, 3, 4, 12, 13, 14, 15] (fun K hK => ?_)
  simp
  apply hK; clear hK K
  refine L_dec (i < d.length) (by simp) (fun hlt => ?_) (fun hge => L_exit ?_)
  · refine L_block ?_
    obtain ⟨r1, p1, v1, x1, y1⟩ := il_ix hv1 hlt
    obtain ⟨w, hw1, hw2⟩ := ls_lo hv1 (by rw [il_len]; omega) (m := i + 1) (by rw [il_len]; omega)
    rw [← il_drop] at hw2
    rw [List.drop_eq_getElem_cons hlt] at hc
    have hdl : (d.drop (i + 1)).length = d.length - (i + 1) := by simp
    obtain ⟨rest, hrest⟩ : ∃ rest, d.drop (i + 1) = rest := ⟨_, rfl⟩
    rw [hrest] at hw2 hc hdl
    simp only [arcsL] at hc
    generalize d[i] = x at y1 hc
    have hwi : aSlice Try.prog 22 v (some (.int .i64 ((i : Int) + 1))) none none = some w := by rw [← hw1]; simp
    refine L_reg [0, 2, 3, 4, 5, 6, 12, 13, 14] (fun K hK => ?_)
    simp [x1, y1]
    apply hK; clear hK K
    refine L_reg [0, 2, 3, 4, 5, 7, 12, 13, 14] (fun K hK => ?_)
    simp [okFn_low, wrap_i64 (a := (i : Int) + 1) (by omega), hwi]
    refine Index_q (il rest) (x : Int) w (by rw [il_len]; omega) _ hw2 _ ?_
    have hz := ixI_il rest x
    generalize ixI (il rest) (x : Int) = z at hz
    simp
    apply hK; clear hK K
    by_cases c : x ∈ rest
    · have hlt2 := List.idxOf_lt_length_of_mem c
      have c' : rest.contains x = true := by simpa using c
      rw [if_pos c'] at hz
      subst hz
      rw [if_pos c'] at hc
      refine L_reg [0, 2, 3, 4, 5, 7, 12, 13, 14, 26] (fun K hK => ?_)
      simp
      apply hK; clear hK K
      refine L_true (by simp) ?_
      obtain ⟨u', H3, happ, ho3, hE3⟩ := ownK_append hE ek74' ek74' (x := [.int .i64 (i : Int), .int .i64 ((i : Int) + 1 + (rest.idxOf x : Int))]) (m := 2) ho rfl (by simp [AV.one]) (by rw [acs_len]; omega)
      refine L_reg [0, 2, 3, 4, 12, 13, 14] (fun K hK => ?_)
      simp [wrap_i64 (a := (i : Int) + 1) (by omega), wrap_i64 (a := (i : Int) + 1 + (rest.idxOf x : Int)) (by omega), bd56', row74, happ]
      apply hK; clear hK K
      refine L_reg [0, 2, 3, 4, 12, 13, 14] (fun K hK => ?_)
      simp [wrap_i64 (a := (i : Int) + 1) (by omega)]
      apply hK; clear hK K
      refine ⟨d.length - (i + 1), [u', .int .i64 (i + 1 : Nat)], by omega, by simp, i + 1, u', A ++ [(i, i + 1 + rest.idxOf x)], rfl, by omega, by simp; omega, rfl, hE3, ?_, ?_⟩
      · have : acs (A ++ [(i, i + 1 + rest.idxOf x)]) = acs A ++ [[.int .i64 (i : Int), .int .i64 ((i : Int) + 1 + (rest.idxOf x : Int))]] := by simp [acs]
        rw [this]; exact ho3
      · rw [hc, hrest]; simp
    · have c' : ¬ rest.contains x = true := by simpa using c
      rw [if_neg c'] at hz
      subst hz
      rw [if_neg c'] at hc
      refine L_reg [0, 2, 3, 4, 5, 7, 12, 13, 14, 26] (fun K hK => ?_)
      simp
      apply hK; clear hK K
      refine L_false (by simp) ?_
      refine L_reg [0, 2, 3, 4, 12, 13, 14] (fun K hK => ?_)
      simp [wrap_i64 (a := (i : Int) + 1) (by omega)]
      apply hK; clear hK K
      exact ⟨d.length - (i + 1), [u, .int .i64 (i + 1 : Nat)], by omega, by simp, i + 1, u, A, rfl, by omega, by omega, rfl, hE, ho, by rw [hc, hrest]; simp⟩
  have e : i = d.length := by omega
  subst e
  rw [List.drop_length] at hc
  simp only [arcsL, List.append_nil] at hc
  rw [← cr_sum, ← ne_sumQ, hc] at h
  have hu := ho.rs
  clear ho hc hv1 hge
  have hul := rs_len74 hu
  rw [acs_len] at hul
  have hbnd : ∀ P, sumP P A ≤ 81 := fun P => by
    have : ∀ B : List (Nat × Nat), (B.map fun a => A.countP (P a)).sum ≤ B.length * 9 := by
      intro B
      induction B with
      | nil => simp
      | cons b B ih =>
        have := List.countP_le_length (p := P b) (l := A)
        simp only [List.map_cons, List.sum_cons, List.length_cons]; omega
    have := this A
    unfold sumP; omega
  have hb1 := hbnd crP
  have hb2 := hbnd neQ
  obtain ⟨I, hI, hz⟩ := zeroT_some zt56
  have sta : ∀ (G : AH) (x y : Int), storeV Try.prog 56 (G ++ [AObj.row [.int .i64 0, .int .i64 0] 0 0 false]) (.ptr G.length 0 0) (.agg [.int .i64 x, .int .i64 y]) = some (none, G ++ [AObj.row [.int .i64 x, .int .i64 y] 0 0 false]) := fun G x y => by
    rw [store_agg ag56 (c := [.int .i64 0, .int .i64 0]) (s := 0) (by simp) (by decide) rfl (by simp) rfl (by simp [AV.one])]
    simp
  refine L_reg [2, 3, 4, 37, 38, 39] (fun K hK => ?_)
  simp [hul]
  apply hK; clear hK K
  refine L_block (L_loopV [2, 3, 39] (fun q vs H' => ∃ (i c n : Nat), q = A.length - i ∧ i ≤ A.length ∧ vs = [.int .i64 c, .int .i64 n, .int .i64 i] ∧ Ext H1 H' ∧ sumP crP A = c + ((A.drop i).map fun a => A.countP (crP a)).sum ∧ sumP neQ A = n + ((A.drop i).map fun a => A.countP (neQ a)).sum) _ [.int .i64 (0 : Nat), .int .i64 (0 : Nat), .int .i64 (0 : Nat)] rfl ⟨0, 0, 0, rfl, by omega, rfl, .refl _, by simp [sumP], by simp [sumP]⟩ ?_)
  rintro q _ H2 ⟨i, c, n, rfl, hi2, rfl, hE2, hc, hn⟩
  refine L_reg [2, 3, 4, 37, 38, 39, 40] (fun K hK => ?_)
  simp
  apply hK; clear hK K
  refine L_dec (i < A.length) (by simp) (fun hlt => ?_) (fun hge => L_exit ?_)
  · refine L_block ?_
    obtain ⟨r1, p1, v1, x1, y1⟩ := rs_ix74 (hu.ext hE2) (i := i) (by rw [acs_len]; exact hlt)
    rw [acs_get hlt] at y1
    rw [List.drop_eq_getElem_cons hlt, List.map_cons, List.sum_cons] at hc hn
    generalize A[i] = a at y1 hc hn
    refine L_reg [2, 3, 4, 9, 37, 38, 39] (fun K hK => ?_)
    simp [x1, y1, hI, hz, sta]
    apply hK; clear hK K
    have hEa : Ext H2 (H2 ++ [AObj.row [.int .i64 (a.1 : Int), .int .i64 (a.2 : Int)] 0 0 false]) := .push _ _
    have ra : (H2 ++ [AObj.row [AV.int .i64 (a.1 : Int), .int .i64 (a.2 : Int)] 0 0 false])[H2.length]? = some (.row [.int .i64 (a.1 : Int), .int .i64 (a.2 : Int)] 0 0 false) := by simp
    have hE3 := hE2.trans hEa
    generalize H2.length = pa at ra ⊢
    generalize H2 ++ [AObj.row [.int .i64 (a.1 : Int), .int .i64 (a.2 : Int)] 0 0 false] = H3 at ra hE3 ⊢
    refine L_reg [2, 3, 4, 9, 37, 38, 39, 43, 44, 45] (fun K hK => ?_)
    simp [hul]
    apply hK; clear hK K
    refine L_block (L_loopV [2, 3, 45] (fun q vs H' => ∃ (j c' n' : Nat), q = A.length - j ∧ j ≤ A.length ∧ vs = [.int .i64 c', .int .i64 n', .int .i64 j] ∧ Ext H3 H' ∧ c + A.countP (crP a) = c' + (A.drop j).countP (crP a) ∧ n + A.countP (neQ a) = n' + (A.drop j).countP (neQ a)) _ [.int .i64 (c : Nat), .int .i64 (n : Nat), .int .i64 (0 : Nat)] rfl ⟨0, c, n, rfl, by omega, rfl, .refl _, by simp, by simp⟩ ?_)
    rintro q _ H4 ⟨j, c', n', rfl, hj, rfl, hE4, hc', hn'⟩
    refine L_reg [2, 3, 4, 9, 37, 38, 39, 43, 44, 45, 46] (fun K hK => ?_)
    simp
    apply hK; clear hK K
    refine L_dec (j < A.length) (by simp) (fun hjl => ?_) (fun hjg => L_exit ?_)
    · refine L_block ?_
      obtain ⟨r2, p2, v2, x2, y2⟩ := rs_ix74 (hu.ext (hE3.trans hE4)) (i := j) (by rw [acs_len]; exact hjl)
      rw [acs_get hjl] at y2
      rw [List.drop_eq_getElem_cons hjl, List.countP_cons] at hc' hn'
      generalize A[j] = b at y2 hc' hn'
      refine L_reg [2, 3, 4, 9, 11, 37, 38, 39, 43, 44, 45] (fun K hK => ?_)
      simp [x2, y2, hI, hz, sta]
      apply hK; clear hK K
      have hEb : Ext H4 (H4 ++ [AObj.row [.int .i64 (b.1 : Int), .int .i64 (b.2 : Int)] 0 0 false]) := .push _ _
      have rb : (H4 ++ [AObj.row [AV.int .i64 (b.1 : Int), .int .i64 (b.2 : Int)] 0 0 false])[H4.length]? = some (.row [.int .i64 (b.1 : Int), .int .i64 (b.2 : Int)] 0 0 false) := by simp
      have ra3 := hEb.row (hE4.row ra)
      have hE6 := hE4.trans hEb
      generalize H4.length = pb at rb ⊢
      generalize H4 ++ [AObj.row [.int .i64 (b.1 : Int), .int .i64 (b.2 : Int)] 0 0 false] = H5 at rb ra3 hE6 ⊢
      have la1 : ld H5 pa 0 0 = some (.int .i64 (a.1 : Int)) := by rw [ld_row ra3]; rfl
      have la2 : ld H5 pa 1 0 = some (.int .i64 (a.2 : Int)) := by rw [ld_row ra3]; rfl
      have lb1 : ld H5 pb 0 0 = some (.int .i64 (b.1 : Int)) := by rw [ld_row rb]; rfl
      have lb2 : ld H5 pb 1 0 = some (.int .i64 (b.2 : Int)) := by rw [ld_row rb]; rfl
      by_cases e0 : a.1 < b.1 ∧ b.1 < a.2
      · refine L_reg [2, 3, 4, 9, 11, 37, 38, 39, 43, 44, 45, 60] (fun K hK => ?_)
        simp [la1, la2, lb1, pickV, e0.1, e0.2]
        apply hK; clear hK K
        refine L_true rfl ?_
        refine L_reg [2, 3, 4, 9, 11, 37, 38, 39, 43, 44, 45, 65] (fun K hK => ?_)
        simp [la2, lb2]
        apply hK; clear hK K
        by_cases e1 : a.2 < b.2
        · have f1 : crP a b = true := by unfold crP; rw [decide_eq_true e0.1, decide_eq_true e0.2, decide_eq_true e1]; rfl
          have f2 : neQ a b = false := by unfold neQ; rw [decide_eq_false (show ¬ b.2 < a.2 by omega), Bool.and_false]
          rw [f1] at hc'
          rw [f2] at hn'
          simp only [Bool.false_eq_true, if_false, if_true] at hc' hn'
          refine L_true (by simpa using e1) ?_
          refine L_reg [2, 3, 4, 9, 37, 38, 39, 43, 44, 45] (fun K hK => ?_)
          simp [wrap_i64 (a := (c' : Int) + 1) (by omega)]
          apply hK; clear hK K
          refine L_reg [2, 3, 4, 9, 37, 38, 39, 43, 44, 45] (fun K hK => ?_)
          simp [wrap_i64 (a := (j : Int) + 1) (by omega)]
          apply hK; clear hK K
          exact ⟨A.length - (j + 1), [.int .i64 (c' + 1 : Nat), .int .i64 (n' : Nat), .int .i64 (j + 1 : Nat)], by omega, by simp, j + 1, c' + 1, n', rfl, by omega, rfl, hE6, by omega, by omega⟩
        · have f1 : crP a b = false := by unfold crP; rw [decide_eq_false e1, Bool.and_false]
          rw [f1] at hc'
          simp only [Bool.false_eq_true, if_false] at hc'
          refine L_false (by simpa using e1) ?_
          refine L_reg [2, 3, 4, 9, 37, 38, 39, 43, 44, 45, 72] (fun K hK => ?_)
          simp [la2, lb2]
          apply hK; clear hK K
          by_cases e2 : b.2 < a.2
          · have f2 : neQ a b = true := by unfold neQ; rw [decide_eq_true e0.1, decide_eq_true e0.2, decide_eq_true e2]; rfl
            rw [f2] at hn'
            simp only [if_true] at hn'
            refine L_true (by simpa using e2) ?_
            refine L_reg [2, 3, 4, 9, 37, 38, 39, 43, 44, 45] (fun K hK => ?_)
            simp [wrap_i64 (a := (n' : Int) + 1) (by omega)]
            apply hK; clear hK K
            refine L_reg [2, 3, 4, 9, 37, 38, 39, 43, 44, 45] (fun K hK => ?_)
            simp [wrap_i64 (a := (j : Int) + 1) (by omega)]
            apply hK; clear hK K
            exact ⟨A.length - (j + 1), [.int .i64 (c' : Nat), .int .i64 (n' + 1 : Nat), .int .i64 (j + 1 : Nat)], by omega, by simp, j + 1, c', n' + 1, rfl, by omega, rfl, hE6, by omega, by omega⟩
          · have f2 : neQ a b = false := by unfold neQ; rw [decide_eq_false e2, Bool.and_false]
            rw [f2] at hn'
            simp only [Bool.false_eq_true, if_false] at hn'
            refine L_false (by simpa using e2) ?_
            refine L_reg [2, 3, 4, 9, 37, 38, 39, 43, 44, 45] (fun K hK => ?_)
            simp [wrap_i64 (a := (j : Int) + 1) (by omega)]
            apply hK; clear hK K
            exact ⟨A.length - (j + 1), [.int .i64 (c' : Nat), .int .i64 (n' : Nat), .int .i64 (j + 1 : Nat)], by omega, by simp, j + 1, c', n', rfl, by omega, rfl, hE6, by omega, by omega⟩
      · have f1 : crP a b = false := by
          unfold crP
          by_cases g1 : a.1 < b.1
          · rw [decide_eq_false (show ¬ b.1 < a.2 from fun g2 => e0 ⟨g1, g2⟩), Bool.and_false, Bool.false_and]
          · rw [decide_eq_false g1, Bool.false_and, Bool.false_and]
        have f2 : neQ a b = false := by
          unfold neQ
          by_cases g1 : a.1 < b.1
          · rw [decide_eq_false (show ¬ b.1 < a.2 from fun g2 => e0 ⟨g1, g2⟩), Bool.and_false, Bool.false_and]
          · rw [decide_eq_false g1, Bool.false_and, Bool.false_and]
        rw [f1] at hc'
        rw [f2] at hn'
        simp only [Bool.false_eq_true, if_false] at hc' hn'
        refine L_reg [2, 3, 4, 9, 11, 37, 38, 39, 43, 44, 45, 60] (fun K hK => ?_)
        suffices hk : K [(2, .int .i64 (c' : Nat)), (3, .int .i64 (n' : Nat)), (4, u), (9, .ptr pa 0 0), (11, .ptr pb 0 0), (37, u), (38, .int .i64 (A.length : Nat)), (39, .int .i64 (i : Nat)), (43, u), (44, .int .i64 (A.length : Nat)), (45, .int .i64 (j : Nat)), (60, .bool false)] H5 by
          by_cases g1 : a.1 < b.1
          · have g2 : ¬ b.1 < a.2 := fun g2 => e0 ⟨g1, g2⟩
            simp [la1, la2, lb1, pickV, g1, g2]
            exact hk
          · simp [la1, lb1, pickV, g1]
            exact hk
        apply hK; clear hK K
        refine L_false rfl ?_
        refine L_reg [2, 3, 4, 9, 37, 38, 39, 43, 44, 45] (fun K hK => ?_)
        simp [wrap_i64 (a := (j : Int) + 1) (by omega)]
        apply hK; clear hK K
        exact ⟨A.length - (j + 1), [.int .i64 (c' : Nat), .int .i64 (n' : Nat), .int .i64 (j + 1 : Nat)], by omega, by simp, j + 1, c', n', rfl, by omega, rfl, hE6, by omega, by omega⟩
    · have e : j = A.length := by omega
      subst e
      rw [List.drop_length] at hc' hn'
      simp only [List.countP_nil, Nat.add_zero] at hc' hn'
      refine L_reg [2, 3, 4, 37, 38, 39] (fun K hK => ?_)
      simp [wrap_i64 (a := (i : Int) + 1) (by omega)]
      apply hK; clear hK K
      exact ⟨A.length - (i + 1), [.int .i64 (c' : Nat), .int .i64 (n' : Nat), .int .i64 (i + 1 : Nat)], by omega, by simp, i + 1, c', n', rfl, by omega, rfl, hE3.trans hE4, by omega, by omega⟩
  · have e : i = A.length := by omega
    subst e
    rw [List.drop_length] at hc hn
    simp only [List.map_nil, List.sum_nil, Nat.add_zero] at hc hn
    rw [hc, hn] at h
    refine L_reg [2, 3] (fun K hK => ?_)
    simp
    apply hK; clear hK K
    exact L_ret ⟨.inr rfl, _, rfl, h _ (hE.trans hE2)⟩
end Go.Proofs.Ytjaefngmidllgaa.St
