/- How many pairs of arcs cross or nest: the reference's way; both public calls. -/
import Derived.Test.YtjaefngmidllgaaArcQ
namespace Go.Proofs.Ytjaefngmidllgaa.St
open Go Go.Proofs.Ytjaefngmidllgaa Go.Proofs.Ytjaefngmidllgaa.AX
set_option maxRecDepth 100000
set_option linter.unusedVariables false
theorem bI (x y : Nat) : decide ((x : Int) < (y : Int)) = decide (x < y) := by rw [decide_eq_decide]; omega
set_option maxHeartbeats 2000000 in
theorem crossed_ac {d : List Nat} (h9 : d.length ≤ 9) (v : AV) (H : AH) (hv : Ls H v (il d)) (Q : AV → AH → Prop) (h : ∀ H', Ext H H' → Q (.tuple [.int .i64 (crS d : Nat), .int .i64 (neS d : Nat)]) H') : AC Try.prog 77 [v] H Q := by
  refine L_body 90 Try.func77 rfl rfl ?_
  refine L_reg [0] (fun K hK => ?_)
  simp
  apply hK; clear hK K
  refine L_reg [0, 4, 5] (fun K hK => ?_)
  simp
  apply hK; clear hK K
  refine L_reg [4, 5, 6] (fun K hK => ?_)
  simp [okFn_low]
  refine arcsR_ac h9 v H hv _ fun u H1 ho hE => ?_
  simp
  apply hK; clear hK K
  rw [← cr_sum, ← ne_sum] at h
  have hAl := arcsL_len d 0
  obtain ⟨A, hA⟩ : ∃ A, arcsL 0 d = A := ⟨_, rfl⟩
  rw [hA] at ho h hAl
  have hu := ho.rs
  clear ho
  have hul := rs_len74 hu
  rw [acs_len] at hul
  have hbnd : ∀ P, sumP P A ≤ 81 := fun P => by
    have : ∀ B : List (Nat × Nat), (B.map fun a => A.countP (P a)).sum ≤ B.length * 9 := by
      intro B
      induction B with
      | nil => simp
      | cons b B ih =>
        have := List.countP_le_length (p := P b) (l := A)
        simp only [List.map_cons, List.sum_cons, List.length_cons]; omega
    have := this A
    unfold sumP; omega
  have hb1 := hbnd crP
  have hb2 := hbnd neP
  refine L_reg [4, 5, 6, 7] (fun K hK => ?_)
  simp
  apply hK; clear hK K
  refine L_block (L_loopV [4, 5, 7] (fun q vs H' => ∃ (i c n : Nat), q = A.length - i ∧ i ≤ A.length ∧ vs = [.int .i64 c, .int .i64 n, .int .i64 i] ∧ H1 = H' ∧ sumP crP A = c + ((A.drop i).map fun a => A.countP (crP a)).sum ∧ sumP neP A = n + ((A.drop i).map fun a => A.countP (neP a)).sum) _ [.int .i64 (0 : Nat), .int .i64 (0 : Nat), .int .i64 (0 : Nat)] rfl ⟨0, 0, 0, rfl, by omega, rfl, rfl, by simp [sumP], by simp [sumP]⟩ ?_)
  rintro q _ _ ⟨i, c, n, rfl, hi, rfl, rfl, hc, hn⟩
  refine L_reg [4, 5, 6, 7, 14] (fun K hK => ?_)
  simp [hul]
  apply hK; clear hK K
  refine L_dec (i < A.length) (by simp) (fun hlt => ?_) (fun hge => L_exit ?_)
  · refine L_block ?_
    obtain ⟨r1, p1, v1, x1, y1⟩ := rs_ix74 hu (i := i) (by rw [acs_len]; exact hlt)
    rw [acs_get hlt] at y1
    obtain ⟨ya1, ya2⟩ := ldn_two y1
    rw [List.drop_eq_getElem_cons hlt, List.map_cons, List.sum_cons] at hc hn
    generalize A[i] = a at ya1 ya2 hc hn
    refine L_reg [4, 5, 6, 7, 8] (fun K hK => ?_)
    simp
    apply hK; clear hK K
    refine L_block (L_loopV [4, 5, 8] (fun q vs H' => ∃ (j c' n' : Nat), q = A.length - j ∧ j ≤ A.length ∧ vs = [.int .i64 c', .int .i64 n', .int .i64 j] ∧ H1 = H' ∧ c + A.countP (crP a) = c' + (A.drop j).countP (crP a) ∧ n + A.countP (neP a) = n' + (A.drop j).countP (neP a)) _ [.int .i64 (c : Nat), .int .i64 (n : Nat), .int .i64 (0 : Nat)] rfl ⟨0, c, n, rfl, by omega, rfl, rfl, by simp, by simp⟩ ?_)
    rintro q _ _ ⟨j, c', n', rfl, hj, rfl, rfl, hc', hn'⟩
    refine L_reg [4, 5, 6, 7, 8, 20] (fun K hK => ?_)
    simp [hul]
    apply hK; clear hK K
    refine L_dec (j < A.length) (by simp) (fun hjl => ?_) (fun hjg => L_exit ?_)
    · refine L_block ?_
      obtain ⟨r2, p2, v2, x2, y2⟩ := rs_ix74 hu (i := j) (by rw [acs_len]; exact hjl)
      rw [acs_get hjl] at y2
      obtain ⟨yb1, yb2⟩ := ldn_two y2
      rw [List.drop_eq_getElem_cons hjl, List.countP_cons] at hc' hn'
      generalize A[j] = b at yb1 yb2 hc' hn'
      refine L_regT mixed [4, 5, 6, 7, 8, 59] (by kernel_rfl) (fun K hK => ?_)
      suffices hk : K [(4, .int .i64 (c' : Nat)), (5, .int .i64 (n' : Nat)), (6, u), (7, .int .i64 (i : Nat)), (8, .int .i64 (j : Nat)), (59, .bool (crP a b))] H1 by
        unfold crP at hk
        by_cases e1 : a.1 < b.1
        · by_cases e2 : b.1 < a.2
          · simp [x1, ya1, ya2, x2, yb1, yb2, pickV, e1, e2]
            simpa [e1, e2] using hk
          · simp [x1, ya1, ya2, x2, yb1, pickV, e1, e2]
            simpa [e1, e2] using hk
        · simp [x1, ya1, x2, yb1, pickV, e1]
          simpa [e1] using hk
      apply hK; clear hK K
      refine L_condK [4, 5, 6, 7, 8] (fun e' H' => e' = [(4, .int .i64 ((if crP a b then c' + 1 else c' : Nat) : Int)), (5, .int .i64 (n' : Nat)), (6, u), (7, .int .i64 (i : Nat)), (8, .int .i64 (j : Nat))] ∧ H1 = H') (t := crP a b) rfl (fun ht => ?_) (fun hf => ?_) ?_
      · rw [ht, if_pos rfl]
        refine L_reg [4, 5, 6, 7, 8] (fun K hK => ?_)
        simp [wrap_i64 (a := (c' : Int) + 1) (by omega)]
        apply hK; clear hK K
        exact ⟨by simp, rfl⟩
      · rw [hf, if_neg (by decide)]
        exact ⟨by simp, rfl⟩
      rintro _ _ ⟨rfl, rfl⟩
      obtain ⟨c2, hc2⟩ : ∃ c2, (if crP a b then c' + 1 else c') = c2 := ⟨_, rfl⟩
      rw [hc2]
      have hc3 : c + A.countP (crP a) = c2 + (A.drop (j + 1)).countP (crP a) := by
        by_cases hcr : crP a b = true
        · rw [if_pos hcr] at hc' hc2; omega
        · rw [if_neg hcr] at hc' hc2; omega
      refine L_regT mixed [4, 5, 6, 7, 8, 85] (by kernel_rfl) (fun K hK => ?_)
      suffices hk : K [(4, .int .i64 (c2 : Nat)), (5, .int .i64 (n' : Nat)), (6, u), (7, .int .i64 (i : Nat)), (8, .int .i64 (j : Nat)), (85, .bool (neP a b))] H1 by
        unfold neP at hk
        by_cases e1 : a.1 < b.1
        · simp [x1, ya1, ya2, x2, yb1, yb2, pickV, e1]
          simpa [e1] using hk
        · simp [x1, ya1, x2, yb1, pickV, e1]
          simpa [e1] using hk
      apply hK; clear hK K
      cases hne : neP a b with
      | true =>
        rw [hne] at hn'
        simp only [if_true] at hn'
        refine L_true rfl ?_
        refine L_reg [4, 5, 6, 7, 8] (fun K hK => ?_)
        simp [wrap_i64 (a := (n' : Int) + 1) (by omega)]
        apply hK; clear hK K
        refine L_reg [4, 5, 6, 7, 8] (fun K hK => ?_)
        simp [wrap_i64 (a := (j : Int) + 1) (by omega)]
        apply hK; clear hK K
        exact ⟨A.length - (j + 1), [.int .i64 (c2 : Nat), .int .i64 (n' + 1 : Nat), .int .i64 (j + 1 : Nat)], by omega, by simp, j + 1, c2, n' + 1, rfl, by omega, rfl, rfl, hc3, by omega⟩
      | false =>
        rw [hne] at hn'
        simp only [Bool.false_eq_true, if_false] at hn'
        refine L_false rfl ?_
        refine L_reg [4, 5, 6, 7, 8] (fun K hK => ?_)
        simp [wrap_i64 (a := (j : Int) + 1) (by omega)]
        apply hK; clear hK K
        exact ⟨A.length - (j + 1), [.int .i64 (c2 : Nat), .int .i64 (n' : Nat), .int .i64 (j + 1 : Nat)], by omega, by simp, j + 1, c2, n', rfl, by omega, rfl, rfl, hc3, by omega⟩
    · have e : j = A.length := by omega
      subst e
      rw [List.drop_length] at hc' hn'
      simp only [List.countP_nil, Nat.add_zero] at hc' hn'
      refine L_reg [4, 5, 6, 7] (fun K hK => ?_)
      simp [wrap_i64 (a := (i : Int) + 1) (by omega)]
      apply hK; clear hK K
      exact ⟨A.length - (i + 1), [.int .i64 (c' : Nat), .int .i64 (n' : Nat), .int .i64 (i + 1 : Nat)], by omega, by simp, i + 1, c', n', rfl, by omega, rfl, rfl, by omega, by omega⟩
  · have e : i = A.length := by omega
    subst e
    rw [List.drop_length] at hc hn
    simp only [List.map_nil, List.sum_nil, Nat.add_zero] at hc hn
    rw [← hc, ← hn]
    refine L_reg [2, 3] (fun K hK => ?_)
    simp
    apply hK; clear hK K
    exact L_ret ⟨.inr rfl, _, rfl, h _ hE⟩
/-- Arcs, both ways. -/
theorem Arcs_bad (F : Nat) (hF : F = 35 ∨ F = 36) (l : List Int) (v : AV) (hlen : l.length ≤ 1000000) (hc : chk l ≠ 0) (H : AH) (hv : Ls H v l) (Q : AV → AH → Prop) (h : Q (.tuple [.int .i64 0, .int .i64 0, .int .i64 (chk l)]) H) : AC Try.prog F [v] H Q := by
  rcases hF with rfl | rfl
  · refine L_body 18 Try.func35 rfl rfl ?_
    refine L_reg [0] (fun K hK => ?_)
    simp
    apply hK; clear hK K
    refine L_reg [0, 4] (fun K hK => ?_)
    simp [okFn_low]
    refine Check_q l v hlen _ hv _ ?_
    simp
    apply hK; clear hK K
    refine L_reg [0, 4, 8] (fun K hK => ?_)
    simp
    apply hK; clear hK K
    refine L_true (by simpa using hc) ?_
    refine L_reg [2, 3, 4] (fun K hK => ?_)
    simp
    apply hK; clear hK K
    exact L_ret ⟨.inr rfl, _, rfl, h⟩
  · refine L_body 20 Try.func36 rfl rfl ?_
    refine L_reg [0] (fun K hK => ?_)
    simp
    apply hK; clear hK K
    refine L_reg [0, 5] (fun K hK => ?_)
    simp [okFn_low]
    refine CheckR_q l v hlen _ hv _ ?_
    simp
    apply hK; clear hK K
    refine L_reg [0, 5, 11] (fun K hK => ?_)
    simp
    apply hK; clear hK K
    refine L_true (by simpa using hc) ?_
    refine L_reg [2, 3, 4] (fun K hK => ?_)
    simp
    apply hK; clear hK K
    exact L_ret ⟨.inr rfl, _, rfl, h⟩
theorem Arcs_ok (F : Nat) (hF : F = 35 ∨ F = 36) {d : List Nat} (hd : OkD d) (v : AV) (H : AH) (hv : Ls H v (il d)) (Q : AV → AH → Prop) (h : ∀ H', Ext H H' → Q (.tuple [.int .i64 (crS d : Nat), .int .i64 (neS d : Nat), .int .i64 0]) H') : AC Try.prog F [v] H Q := by
  have h9 := hd.len
  have hlen : (il d).length ≤ 1000000 := by rw [il_len]; omega
  have hc := chk_il hd
  have hAl := arcsL_len d 0
  rcases hF with rfl | rfl
  · refine L_body 18 Try.func35 rfl rfl ?_
    refine L_reg [0] (fun K hK => ?_)
    simp
    apply hK; clear hK K
    refine L_reg [0, 4] (fun K hK => ?_)
    simp [okFn_low]
    refine Check_q (il d) v hlen _ hv _ ?_
    simp [hc]
    apply hK; clear hK K
    refine L_reg [0, 4, 8] (fun K hK => ?_)
    simp
    apply hK; clear hK K
    refine L_false rfl ?_
    refine L_reg [2, 3] (fun K hK => ?_)
    simp [okFn_low]
    refine arcs_ac hd.pos h9 v H hv _ fun u H1 ho hE => ?_
    simp [okFn_low]
    refine met_ac (arcsL 0 d) (by omega) u H1 ho.rs _ fun H2 hE2 => ?_
    simp
    apply hK; clear hK K
    refine L_reg [2, 3, 4] (fun K hK => ?_)
    simp
    apply hK; clear hK K
    exact L_ret ⟨.inr rfl, _, rfl, h _ (hE.trans hE2)⟩
  · refine L_body 20 Try.func36 rfl rfl ?_
    refine L_reg [0] (fun K hK => ?_)
    simp
    apply hK; clear hK K
    refine L_reg [0, 5] (fun K hK => ?_)
    simp [okFn_low]
    refine CheckR_q (il d) v hlen _ hv _ ?_
    simp [hc]
    apply hK; clear hK K
    refine L_reg [0, 5, 11] (fun K hK => ?_)
    simp
    apply hK; clear hK K
    refine L_false rfl ?_
    refine L_reg [6, 7] (fun K hK => ?_)
    simp [okFn_low]
    refine crossed_ac h9 v H hv _ fun H1 hE => ?_
    simp
    apply hK; clear hK K
    refine L_reg [2, 3, 4] (fun K hK => ?_)
    simp
    apply hK; clear hK K
    exact L_ret ⟨.inr rfl, _, rfl, h _ hE⟩
end Go.Proofs.Ytjaefngmidllgaa.St
