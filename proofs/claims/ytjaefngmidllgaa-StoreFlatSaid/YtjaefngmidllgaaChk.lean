/- Divisions are checked and made of labels; the reference's ways too. -/
import Derived.Test.YtjaefngmidllgaaCnt
import Derived.Test.YtjaefngmidllgaaDiv
namespace Go.Proofs.Ytjaefngmidllgaa.St
open Go Go.Proofs.Ytjaefngmidllgaa Go.Proofs.Ytjaefngmidllgaa.AX
set_option maxRecDepth 100000
set_option linter.unusedVariables false
def nilS : AV := .slice none 0 0 0 1 false
theorem szE_ne {n : Nat} (h : szE n ≠ 0) : (szE n == 0) = false := by simpa using h
theorem chkG_cons (m : Nat) (x : Int) (l : List Int) : chkG m (x :: l) = if x < 0 then 1 else if (m : Int) < x then 7 else chkG (if x = m then m + 1 else m) l := rfl
theorem Check_q (l : List Int) (v : AV) (hlen : l.length ≤ 1000000) (H : AH) (hv : Ls H v l) (Q : AV → AH → Prop) (h : Q (.int .i64 (chk l)) H) : AC Try.prog 21 [v] H Q := by
  have hvl := ls_len hv
  refine L_body 29 Try.func21 rfl rfl ?_
  refine L_reg [0] (fun K hK => ?_)
  simp
  apply hK; clear hK K
  refine L_reg [0, 3] (fun K hK => ?_)
  simp [okFn_low]
  refine sized_q 59 (.inl rfl) l v hlen _ hv _ ?_
  simp
  apply hK; clear hK K
  refine L_reg [0, 3, 10] (fun K hK => ?_)
  simp
  apply hK; clear hK K
  unfold chk at h
  by_cases c : szE l.length = 0
  · rw [if_pos c] at h
    refine L_false (by simpa using c) ?_
    refine L_reg [0, 4] (fun K hK => ?_)
    simp
    apply hK; clear hK K
    refine L_reg [4, 12, 13, 14] (fun K hK => ?_)
    simp [hvl]
    apply hK; clear hK K
    have hle : l.length ≤ 9 := by unfold szE at c; split at c; · cases c
                                  · split at c; · cases c
                                    · omega
    refine L_block (L_loopV [4, 14] (fun q vs H' => ∃ (i m : Nat), q = l.length - i ∧ i ≤ l.length ∧ m ≤ i ∧ vs = [.int .i64 m, .int .i64 i] ∧ H = H' ∧ chkG 0 l = chkG m (l.drop i)) _ [.int .i64 (0 : Nat), .int .i64 (0 : Nat)] rfl ⟨0, 0, rfl, by omega, by omega, rfl, rfl, rfl⟩ ?_)
    rintro q _ _ ⟨i, m, rfl, hi, hm, rfl, rfl, hc⟩
    refine L_reg [4, 12, 13, 14, 15] (fun K hK => ?_)
    simp
    apply hK; clear hK K
    refine L_dec (i < l.length) (by simp) (fun hlt => ?_) (fun hge => L_exit ?_)
    · refine L_block ?_
      obtain ⟨rz, pz, vz, hix, hldz⟩ := ls_ix hv hlt
      rw [List.drop_eq_getElem_cons hlt] at hc
      rw [chkG_cons] at hc
      generalize l[i] = x at hldz hc
      refine L_reg [4, 6, 12, 13, 14] (fun K hK => ?_)
      simp [hix, hldz]
      apply hK; clear hK K
      refine L_reg [4, 6, 12, 13, 14, 19] (fun K hK => ?_)
      simp
      apply hK; clear hK K
      by_cases c1 : x < 0
      · rw [if_pos c1] at hc
        refine L_true (by simpa using c1) ?_
        refine L_reg [2] (fun K hK => ?_)
        simp
        apply hK; clear hK K
        exact L_ret ⟨.inr rfl, _, rfl, (by rw [hc] at h; exact h)⟩
      rw [if_neg c1] at hc
      refine L_false (by simpa using c1) ?_
      refine L_reg [4, 6, 12, 13, 14, 22] (fun K hK => ?_)
      simp
      apply hK; clear hK K
      by_cases c2 : (m : Int) < x
      · rw [if_pos c2] at hc
        refine L_true (by simpa using c2) ?_
        refine L_reg [2] (fun K hK => ?_)
        simp
        apply hK; clear hK K
        exact L_ret ⟨.inr rfl, _, rfl, (by rw [hc] at h; exact h)⟩
      rw [if_neg c2] at hc
      refine L_false (by simpa using c2) ?_
      refine L_reg [4, 12, 13, 14, 25] (fun K hK => ?_)
      simp
      apply hK; clear hK K
      by_cases c3 : x = m
      · rw [if_pos c3] at hc
        refine L_true (by simpa using c3) ?_
        refine L_reg [4, 12, 13, 14] (fun K hK => ?_)
        simp [wrap_i64 (a := (m : Int) + 1) (by omega)]
        apply hK; clear hK K
        refine L_reg [4, 12, 13, 14] (fun K hK => ?_)
        simp [wrap_i64 (a := (i : Int) + 1) (by omega)]
        apply hK; clear hK K
        exact ⟨l.length - (i + 1), [.int .i64 (m + 1 : Nat), .int .i64 (i + 1 : Nat)], by omega, by simp, i + 1, m + 1, rfl, by omega, by omega, rfl, rfl, hc⟩
      · rw [if_neg c3] at hc
        refine L_false (by simpa using c3) ?_
        refine L_reg [4, 12, 13, 14] (fun K hK => ?_)
        simp [wrap_i64 (a := (i : Int) + 1) (by omega)]
        apply hK; clear hK K
        exact ⟨l.length - (i + 1), [.int .i64 (m : Nat), .int .i64 (i + 1 : Nat)], by omega, by simp, i + 1, m, rfl, by omega, by omega, rfl, rfl, hc⟩
    · have e : i = l.length := by omega
      subst e
      rw [List.drop_length] at hc
      refine L_reg [2] (fun K hK => ?_)
      simp
      apply hK; clear hK K
      exact L_ret ⟨.inr rfl, _, rfl, (by rw [hc] at h; exact h)⟩
  · rw [if_neg c] at h
    refine L_true (by simpa using c) ?_
    refine L_reg [2] (fun K hK => ?_)
    simp
    apply hK; clear hK K
    exact L_ret ⟨.inr rfl, _, rfl, h⟩
theorem CheckR_q (l : List Int) (v : AV) (hlen : l.length ≤ 1000000) (H : AH) (hv : Ls H v l) (Q : AV → AH → Prop) (h : Q (.int .i64 (chk l)) H) : AC Try.prog 22 [v] H Q := by
  have hvl := ls_len hv
  refine L_body 30 Try.func22 rfl rfl ?_
  refine L_reg [0] (fun K hK => ?_)
  simp
  apply hK; clear hK K
  refine L_reg [0, 3] (fun K hK => ?_)
  simp [okFn_low]
  refine sized_q 61 (.inr rfl) l v hlen _ hv _ ?_
  simp
  apply hK; clear hK K
  refine L_reg [0, 3, 8] (fun K hK => ?_)
  simp
  apply hK; clear hK K
  unfold chk at h
  by_cases c : szE l.length = 0
  · rw [if_pos c] at h
    refine L_false (by simpa using c) ?_
    refine L_reg [0, 4] (fun K hK => ?_)
    simp
    apply hK; clear hK K
    have hle : l.length ≤ 9 ∧ 0 < l.length := by unfold szE at c; split at c; · cases c
                                                 · split at c; · cases c
                                                   · omega
    refine L_block (L_loopV [4] (fun q vs H' => ∃ (i : Nat) (d : List Nat), q = l.length - i ∧ i ≤ l.length ∧ vs = [.int .i64 i] ∧ H = H' ∧ l.take i = il d ∧ rg 0 d = true ∧ chkG 0 l = chkG (opn 0 d) (l.drop i)) _ [.int .i64 (0 : Nat)] rfl ⟨0, [], rfl, by omega, rfl, rfl, rfl, rfl, rfl⟩ ?_)
    rintro q _ _ ⟨i, d, rfl, hi, rfl, rfl, hd, hrg, hc⟩
    refine L_reg [0, 4, 13] (fun K hK => ?_)
    simp [hvl]
    apply hK; clear hK K
    refine L_dec (i < l.length) (by simp) (fun hlt => ?_) (fun hge => L_exit ?_)
    · refine L_block ?_
      obtain ⟨rz, pz, vz, hix, hldz⟩ := ls_ix hv hlt
      have htk := List.take_append_getElem hlt
      rw [List.drop_eq_getElem_cons hlt] at hc
      rw [chkG_cons] at hc
      generalize l[i] = x at hldz hc htk
      refine L_reg [0, 4, 20] (fun K hK => ?_)
      simp [hix, hldz]
      apply hK; clear hK K
      by_cases c1 : x < 0
      · rw [if_pos c1] at hc
        refine L_true (by simpa using c1) ?_
        refine L_reg [2] (fun K hK => ?_)
        simp
        apply hK; clear hK K
        exact L_ret ⟨.inr rfl, _, rfl, (by rw [hc] at h; exact h)⟩
      rw [if_neg c1] at hc
      refine L_false (by simpa using c1) ?_
      obtain ⟨u, hu1, hu2⟩ := ls_hi hv hle.2 (m := i) (by omega)
      rw [hd] at hu2
      have hdl : d.length = i := by have := congrArg List.length hd; rw [il_len] at this; simp at this; omega
      refine L_regQ mixed [0, 4, 29] (by kernel_rfl) (fun K hK => ?_)
      simp [okFn_low, hix, hldz, hu1, okFn_low]
      refine exQ_mk (fun Q hQ => many_q d hrg (by omega) u _ hu2 Q hQ) ?_
      simp
      apply hK; clear hK K
      by_cases c2 : (opn 0 d : Int) < x
      · rw [if_pos c2] at hc
        refine L_true (by simpa using c2) ?_
        refine L_reg [2] (fun K hK => ?_)
        simp
        apply hK; clear hK K
        exact L_ret ⟨.inr rfl, _, rfl, (by rw [hc] at h; exact h)⟩
      rw [if_neg c2] at hc
      refine L_false (by simpa using c2) ?_
      refine L_reg [0, 4] (fun K hK => ?_)
      simp [wrap_i64 (a := (i : Int) + 1) (by omega)]
      apply hK; clear hK K
      obtain ⟨y, rfl⟩ : ∃ y : Nat, x = y := ⟨x.toNat, by omega⟩
      refine ⟨l.length - (i + 1), [.int .i64 (i + 1 : Nat)], by omega, by simp, i + 1, d ++ [y], rfl, by omega, rfl, rfl, ?_, ?_, ?_⟩
      · rw [← htk, hd, il_snoc]
      · rw [rg_snoc, hrg, Bool.true_and, decide_eq_true_eq]; omega
      · rw [hc, opn_snoc]
        have e : ((y : Int) = (opn 0 d : Int)) = (y = opn 0 d) := propext ⟨fun h => by omega, fun h => by omega⟩
        simp only [e]
    · have e : i = l.length := by omega
      subst e
      rw [List.drop_length] at hc
      refine L_reg [2] (fun K hK => ?_)
      simp
      apply hK; clear hK K
      exact L_ret ⟨.inr rfl, _, rfl, (by rw [hc] at h; exact h)⟩
  · rw [if_neg c] at h
    refine L_true (by simpa using c) ?_
    refine L_reg [2] (fun K hK => ?_)
    simp
    apply hK; clear hK K
    exact L_ret ⟨.inr rfl, _, rfl, h⟩
theorem opn_dvL {K : Type} [BEq K] [LawfulBEq K] : ∀ (l s : List K), opn s.length (dvL s l) = (nubL s l).length
  | [], s => rfl
  | k :: l, s => by
    simp only [dvL, opn, nubL]
    by_cases c : k ∈ s
    · rw [if_neg (by have := List.idxOf_lt_length_of_mem c; omega), if_pos (by simpa using c)]
      exact opn_dvL l s
    · rw [if_pos (List.idxOf_eq_length c), if_neg (by simpa using c)]
      have := opn_dvL l (s ++ [k])
      simpa using this
theorem opn_dv {K : Type} [BEq K] [LawfulBEq K] (l : List K) : opn 0 (dv l) = (nub l).length := opn_dvL l []
set_option maxHeartbeats 1000000 in
theorem of_ac (l : List Int) (v : AV) (hlen : l.length ≤ 1000) (H : AH) (hv : Ls H v l) (Q : AV → AH → Prop) (h : ∀ v' H', OwnF H.length H' v' ((il (dv l)).map (.int .i64)) → Ext H H' → Q v' H') : AC Try.prog 62 [v] H Q := by
  refine L_body 39 Try.func62 rfl rfl ?_
  refine L_reg [0] (fun K hK => ?_)
  simp
  apply hK; clear hK K
  refine L_reg [0, 3] (fun K hK => ?_)
  simp
  apply hK; clear hK K
  refine L_reg [0, 3, 4] (fun K hK => ?_)
  simp
  apply hK; clear hK K
  refine L_block (L_loopV [3, 4] (fun q vs H' => ∃ (i : Nat) (u : AV), q = l.length - i ∧ i ≤ l.length ∧ vs = [u, .int .i64 i] ∧ Ext H H' ∧ OwnF H.length H' u ((il (dv (l.take i))).map (.int .i64))) _ [.slice none 0 0 0 1 false, .int .i64 (0 : Nat)] rfl ⟨0, _, rfl, by omega, rfl, .refl _, OwnF.nil _ _⟩ ?_)
  rintro q _ H1 ⟨i, u, rfl, hi, rfl, hE, ho⟩
  have hv1 := hv.ext hE
  have hvl := ls_len hv1
  refine L_reg [0, 3, 4, 10] (fun K hK => ?_)
  simp [hvl]
  apply hK; clear hK K
  refine L_dec (i < l.length) (by simp) (fun hlt => ?_) (fun hge => L_exit ?_)
  · refine L_block ?_
    have hu := ownF_ls ho
    have htl : (dv (l.take i)).length = i := by rw [dv_len]; simp; omega
    refine L_reg [0, 3, 4, 5] (fun K hK => ?_)
    simp [okFn_low]
    refine many_q (dv (l.take i)) (rg_dv _) (by omega) u _ hu _ ?_
    simp
    apply hK; clear hK K
    rw [opn_dv]
    refine L_reg [0, 3, 4, 5, 6] (fun K hK => ?_)
    simp [wrap_i64 (a := (i : Int) - 1) (by omega)]
    apply hK; clear hK K
    obtain ⟨x, hx⟩ : ∃ x, l[i] = x := ⟨_, rfl⟩
    obtain ⟨ix, hixd⟩ : ∃ ix, (nub (l.take i)).idxOf x = ix := ⟨_, rfl⟩
    have hnl := nub_len (l.take i)
    have hixle : ix ≤ (nub (l.take i)).length := by rw [← hixd]; exact List.idxOf_le_length
    refine L_block (L_loopV [5, 6] (fun q vs H' => ∃ k : Nat, q = k ∧ k ≤ i ∧ vs = [.int .i64 ((if x ∈ (l.take i).drop k then ix else (nub (l.take i)).length : Nat) : Int), .int .i64 ((k : Int) - 1)] ∧ H1 = H') _ [.int .i64 ((nub (l.take i)).length : Nat), .int .i64 ((i : Int) - 1)] rfl ⟨i, rfl, Nat.le_refl _, by rw [List.drop_of_length_le (by simp; omega)]; simp, rfl⟩ ?_)
    rintro q _ _ ⟨k, hqk, hk, rfl, rfl⟩
    refine L_reg [0, 3, 4, 5, 6, 18] (fun K hK => ?_)
    simp
    apply hK; clear hK K
    cases k with
    | succ k =>
      refine L_true (by simp; omega) ?_
      refine L_block ?_
      have hkl : k < l.length := by omega
      obtain ⟨r1, p1, v1, x1, y1⟩ := ls_ix hv1 hkl
      obtain ⟨r2, p2, v2, x2, y2⟩ := ls_ix hv1 hlt
      obtain ⟨r3, p3, v3, x3, y3⟩ := il_ix hu (i := k) (by omega)
      have hdk : (dv (l.take i))[k]'(by omega) = (nub (l.take i)).idxOf l[k] := by simp [dv_map]
      rw [hdk] at y3
      rw [hx] at y2
      have hdr : (l.take i).drop k = l[k] :: (l.take i).drop (k + 1) := by
        rw [List.drop_eq_getElem_cons (by simp; omega)]; simp
      have e1 : ((k + 1 : Nat) : Int) - 1 = (k : Int) := by omega
      rw [e1]
      generalize l[k] = y at y1 y3 hdr
      refine L_regT mixed [0, 3, 4, 5, 6, 29] (by kernel_rfl) (fun K hK => ?_)
      simp [x1, y1, x2, y2]
      apply hK; clear hK K
      by_cases e : y = x
      · subst e
        rw [hixd] at y3
        refine L_true (by simp) ?_
        refine L_reg [0, 3, 4, 5, 6] (fun K hK => ?_)
        simp [x3, y3]
        apply hK; clear hK K
        refine L_reg [0, 3, 4, 5, 6] (fun K hK => ?_)
        simp [wrap_i64 (a := (k : Int) - 1) (by omega)]
        apply hK; clear hK K
        exact ⟨k, [.int .i64 (ix : Nat), .int .i64 ((k : Int) - 1)], by omega, by simp, k, rfl, by omega, by rw [hdr]; simp, rfl⟩
      · refine L_false (by simpa using e) ?_
        refine L_reg [0, 3, 4, 5, 6] (fun K hK => ?_)
        simp [wrap_i64 (a := (k : Int) - 1) (by omega)]
        apply hK; clear hK K
        have e2 : x ≠ y := fun h => e h.symm
        exact ⟨k, [.int .i64 ((if x ∈ (l.take i).drop (k + 1) then ix else (nub (l.take i)).length : Nat) : Int), .int .i64 ((k : Int) - 1)], by omega, by simp, k, rfl, by omega, by rw [hdr]; simp [e2], rfl⟩
    | zero =>
      refine L_false (by simp) (L_exit ?_)
      rw [List.drop_zero]
      have e : (if x ∈ l.take i then ix else (nub (l.take i)).length) = ix := by
        split
        · rfl
        · rename_i c
          rw [← hixd, List.idxOf_eq_length (fun h => c ((nub_mem _ _).1 h))]
      rw [e]
      have hnx : dv (l.take (i + 1)) = dv (l.take i) ++ [ix] := by rw [← List.take_append_getElem hlt, dv_snoc, hx, hixd]
      obtain ⟨v', H3, happ, ho3, hE3⟩ := ownF_append (P := Try.prog) (m := 1) (x := .int .i64 (ix : Nat)) hE el22 el22 ho rfl (by simp [il_len, dv_len]; omega)
      refine L_reg [0, 3, 4] (fun K hK => ?_)
      simp [happ]
      apply hK; clear hK K
      refine L_reg [0, 3, 4] (fun K hK => ?_)
      simp [wrap_i64 (a := (i : Int) + 1) (by omega)]
      apply hK; clear hK K
      refine ⟨l.length - (i + 1), [v', .int .i64 (i + 1 : Nat)], by omega, by simp, i + 1, v', rfl, by omega, rfl, hE3, ?_⟩
      rw [hnx, il_snoc, List.map_append]
      exact ho3
  · have e : i = l.length := by omega
    subst e
    rw [List.take_length] at ho
    refine L_reg [2] (fun K hK => ?_)
    simp
    apply hK; clear hK K
    exact L_ret ⟨.inr rfl, _, rfl, h _ _ ho hE⟩
/-- The answer of both ways to make a division of labels. -/
theorem Of_ac (F : Nat) (hF : F = 16 ∨ F = 17) (l : List Int) (v : AV) (hlen : l.length ≤ 1000) (H : AH) (hv : Ls H v l) (Q : AV → AH → Prop) (h1 : szE l.length ≠ 0 → Q (.tuple [nilS, .int .i64 (szE l.length)]) H) (h2 : szE l.length = 0 → ∀ v' H', OwnF H.length H' v' ((il (dv l)).map (.int .i64)) → Ext H H' → Q (.tuple [v', .int .i64 0]) H') : AC Try.prog F [v] H Q := by
  rcases hF with rfl | rfl
  · refine L_body 12 Try.func16 rfl rfl ?_
    refine L_reg [0] (fun K hK => ?_)
    simp
    apply hK; clear hK K
    refine L_reg [0, 4] (fun K hK => ?_)
    simp [okFn_low]
    refine sized_q 59 (.inl rfl) l v (by omega) _ hv _ ?_
    simp
    apply hK; clear hK K
    refine L_reg [0, 4, 8] (fun K hK => ?_)
    simp
    apply hK; clear hK K
    by_cases c : szE l.length = 0
    · refine L_false (by simpa using c) ?_
      refine L_reg [2, 3] (fun K hK => ?_)
      simp [okFn_low]
      refine div60_ac l v hlen H hv _ fun v' H' ho hE => ?_
      simp
      apply hK; clear hK K
      exact L_ret ⟨.inr rfl, _, rfl, h2 c v' H' ho hE⟩
    · refine L_true (by simpa using c) ?_
      refine L_reg [2, 3] (fun K hK => ?_)
      simp
      apply hK; clear hK K
      exact L_ret ⟨.inr rfl, _, rfl, h1 c⟩
  · refine L_body 12 Try.func17 rfl rfl ?_
    refine L_reg [0] (fun K hK => ?_)
    simp
    apply hK; clear hK K
    refine L_reg [0, 4] (fun K hK => ?_)
    simp [okFn_low]
    refine sized_q 61 (.inr rfl) l v (by omega) _ hv _ ?_
    simp
    apply hK; clear hK K
    refine L_reg [0, 4, 8] (fun K hK => ?_)
    simp
    apply hK; clear hK K
    by_cases c : szE l.length = 0
    · refine L_false (by simpa using c) ?_
      refine L_reg [2, 3] (fun K hK => ?_)
      simp [okFn_low]
      refine of_ac l v hlen H hv _ fun v' H' ho hE => ?_
      simp
      apply hK; clear hK K
      exact L_ret ⟨.inr rfl, _, rfl, h2 c v' H' ho hE⟩
    · refine L_true (by simpa using c) ?_
      refine L_reg [2, 3] (fun K hK => ?_)
      simp
      apply hK; clear hK K
      exact L_ret ⟨.inr rfl, _, rfl, h1 c⟩
end Go.Proofs.Ytjaefngmidllgaa.St
