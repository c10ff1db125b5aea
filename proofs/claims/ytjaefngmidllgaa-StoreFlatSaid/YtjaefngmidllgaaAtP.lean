/- The division with a number: both ways. -/
import Derived.Test.YtjaefngmidllgaaNum
namespace Go.Proofs.Ytjaefngmidllgaa.St
open Go Go.Proofs.Ytjaefngmidllgaa Go.Proofs.Ytjaefngmidllgaa.AX
set_option maxRecDepth 100000
set_option linter.unusedVariables false
theorem At_bad (F : Nat) (hF : F = 27 ∨ F = 28) (n k : Int) (hc : bxE n ≠ 0) (H : AH) (Q : AV → AH → Prop) (h : Q (.tuple [nilS, .int .i64 1]) H) : AC Try.prog F [.int .i64 n, .int .i64 k] H Q := by
  obtain ⟨h1, h2⟩ := bx_one hc
  rcases hF with rfl | rfl
  · refine L_body 59 Try.func27 rfl rfl ?_
    refine L_reg [0, 1] (fun K hK => ?_)
    simp
    apply hK; clear hK K
    refine L_reg [0, 1, 6] (fun K hK => ?_)
    simp [okFn_low]
    refine boxes_q n _ _ ?_
    simp
    apply hK; clear hK K
    refine L_reg [0, 1, 6, 15] (fun K hK => ?_)
    simp
    apply hK; clear hK K
    refine L_true (by simpa using hc) ?_
    refine L_reg [4, 5] (fun K hK => ?_)
    simp
    apply hK; clear hK K
    rw [h1]
    exact L_ret ⟨.inr rfl, _, rfl, h⟩
  · refine L_body 59 Try.func28 rfl rfl ?_
    refine L_reg [0, 1] (fun K hK => ?_)
    simp
    apply hK; clear hK K
    refine L_reg [0, 1, 6, 7] (fun K hK => ?_)
    simp [okFn_low]
    refine Count_q 24 (.inr rfl) n _ _ ?_
    simp
    apply hK; clear hK K
    rw [h1]
    refine L_reg [0, 1, 7, 25] (fun K hK => ?_)
    simp [pickV]
    apply hK; clear hK K
    refine L_false rfl ?_
    refine L_reg [0, 1, 7, 27] (fun K hK => ?_)
    simp
    apply hK; clear hK K
    refine L_true rfl ?_
    refine L_reg [4, 5] (fun K hK => ?_)
    simp
    apply hK; clear hK K
    exact L_ret ⟨.inr rfl, _, rfl, h⟩
theorem At_none (F : Nat) (hF : F = 27 ∨ F = 28) {n : Nat} (h1 : 1 ≤ n) (h9 : n ≤ 9) (k : Int) (hk : ¬ (0 ≤ k ∧ k < (ways n 0 : Nat))) (H : AH) (Q : AV → AH → Prop) (h : Q (.tuple [nilS, .int .i64 1]) H) : AC Try.prog F [.int .i64 (n : Nat), .int .i64 k] H Q := by
  have hb := bx_nat h1 h9
  rcases hF with rfl | rfl
  · refine L_body 59 Try.func27 rfl rfl ?_
    refine L_reg [0, 1] (fun K hK => ?_)
    simp
    apply hK; clear hK K
    refine L_reg [0, 1, 6] (fun K hK => ?_)
    simp [okFn_low]
    refine boxes_q (n : Int) _ _ ?_
    simp [hb]
    apply hK; clear hK K
    refine L_reg [0, 1, 6, 15] (fun K hK => ?_)
    simp
    apply hK; clear hK K
    refine L_false rfl ?_
    by_cases c : k < 0
    · refine L_reg [0, 1, 24] (fun K hK => ?_)
      simp [pickV, c]
      apply hK; clear hK K
      refine L_true rfl ?_
      refine L_reg [4, 5] (fun K hK => ?_)
      simp
      apply hK; clear hK K
      exact L_ret ⟨.inr rfl, _, rfl, h⟩
    · refine L_reg [0, 1, 24] (fun K hK => ?_)
      simp [okFn_low, c]
      refine ways_q n 0 (by omega) (by omega) _ _ ?_
      simp [pickV]
      apply hK; clear hK K
      refine L_true (by simp; omega) ?_
      refine L_reg [4, 5] (fun K hK => ?_)
      simp
      apply hK; clear hK K
      exact L_ret ⟨.inr rfl, _, rfl, h⟩
  · have hcn : cntS (n : Int) = (ways n 0 : Nat) := by unfold cntS; rw [if_pos hb]; simp
    have hwb := ways_b n 0 (by omega) h9
    refine L_body 59 Try.func28 rfl rfl ?_
    refine L_reg [0, 1] (fun K hK => ?_)
    simp
    apply hK; clear hK K
    refine L_reg [0, 1, 6, 7] (fun K hK => ?_)
    simp [okFn_low]
    refine Count_q 24 (.inr rfl) (n : Int) _ _ ?_
    simp [hb, hcn]
    apply hK; clear hK K
    have hd : decide (0 ≤ k ∧ k ≤ (ways n 0 : Int) - 1) = false := by rw [decide_eq_false_iff_not]; omega
    refine L_reg [0, 1, 7, 25] (fun K hK => ?_)
    simp [okFn_low, wrap_i64 (a := (ways n 0 : Int) - 1) (by omega)]
    refine in_q k 0 ((ways n 0 : Int) - 1) _ _ ?_
    rw [hd]
    simp [pickV]
    apply hK; clear hK K
    refine L_true rfl ?_
    refine L_reg [0, 1, 7] (fun K hK => ?_)
    simp
    apply hK; clear hK K
    refine L_reg [0, 1, 7, 27] (fun K hK => ?_)
    simp
    apply hK; clear hK K
    refine L_true rfl ?_
    refine L_reg [4, 5] (fun K hK => ?_)
    simp
    apply hK; clear hK K
    exact L_ret ⟨.inr rfl, _, rfl, h⟩
theorem at_drop {n k i o c : Nat} {D : List Nat} (hD : atS n 0 k = D) (hi : i < n) (h : D.drop i = atS (n - i) o c) : D.drop (i + 1) = atS (n - (i + 1)) (if min (c / ways (n - (i + 1)) o) o = o then o + 1 else o) (c - min (c / ways (n - (i + 1)) o) o * ways (n - (i + 1)) o) ∧ D.take (i + 1) = D.take i ++ [min (c / ways (n - (i + 1)) o) o] := by
  have hl : D.length = n := by rw [← hD, atS_len]
  rw [List.drop_eq_getElem_cons (by omega), show n - i = (n - (i + 1)) + 1 by omega] at h
  simp only [atS, List.cons.injEq] at h
  refine ⟨h.2, ?_⟩
  rw [← h.1, List.take_append_getElem]
theorem tdiv_nat (a b : Nat) : ((a : Int)).tdiv (b : Int) = ((a / b : Nat) : Int) := by
  rw [Int.tdiv_eq_ediv_of_nonneg (Int.natCast_nonneg _)]; simp
set_option maxHeartbeats 1000000 in
theorem At_ok {n k : Nat} (h1 : 1 ≤ n) (h9 : n ≤ 9) (hk : k < ways n 0) (H : AH) (Q : AV → AH → Prop) (h : ∀ v' H', OwnF H.length H' v' ((il (atS n 0 k)).map (.int .i64)) → Ext H H' → Q (.tuple [v', .int .i64 0]) H') : AC Try.prog 27 [.int .i64 (n : Nat), .int .i64 (k : Nat)] H Q := by
  have hb := bx_nat h1 h9
  have hwb := ways_b n 0 (by omega) h9
  refine L_body 59 Try.func27 rfl rfl ?_
  refine L_reg [0, 1] (fun K hK => ?_)
  simp
  apply hK; clear hK K
  refine L_reg [0, 1, 6] (fun K hK => ?_)
  simp [okFn_low]
  refine boxes_q (n : Int) _ _ ?_
  simp [hb]
  apply hK; clear hK K
  refine L_reg [0, 1, 6, 15] (fun K hK => ?_)
  simp
  apply hK; clear hK K
  refine L_false rfl ?_
  have c : ¬ (k : Int) < 0 := by omega
  refine L_reg [0, 1, 24] (fun K hK => ?_)
  simp [okFn_low, c]
  refine ways_q n 0 (by omega) (by omega) _ _ ?_
  simp [pickV]
  apply hK; clear hK K
  refine L_false (by simp; omega) ?_
  obtain ⟨D, hD⟩ : ∃ D, atS n 0 k = D := ⟨_, rfl⟩
  have hl : D.length = n := by rw [← hD, atS_len]
  rw [hD] at h
  refine L_reg [0, 1, 7] (fun K hK => ?_)
  simp [make_z elz22 (show n ≤ 16777216 by omega)]
  apply hK; clear hK K
  have hE : Ext H (H ++ [AObj.row (List.replicate n (AV.int .i64 0)) 0 0 false]) := .push _ _
  have hr : (H ++ [AObj.row (List.replicate n (AV.int .i64 0)) 0 0 false])[H.length]? = some (.row ((il (D.take 0 ++ List.replicate (n - 0) 0)).map (.int .i64)) 0 0 false) := by simp [il]
  generalize H ++ [AObj.row (List.replicate n (AV.int .i64 0)) 0 0 false] = H1 at hE hr ⊢
  refine L_reg [0, 1, 7, 8] (fun K hK => ?_)
  simp
  apply hK; clear hK K
  refine L_reg [0, 1, 7, 8, 28, 29] (fun K hK => ?_)
  simp
  apply hK; clear hK K
  refine L_block (L_loopV [1, 8, 29] (fun q vs H' => ∃ (i o c t : Nat), q = n - i ∧ i ≤ n ∧ o ≤ i ∧ c < ways (n - i) o ∧ vs = [.int .i64 c, .int .i64 o, .int .i64 i] ∧ Ext H H' ∧ D.drop i = atS (n - i) o c ∧ H'[H.length]? = some (.row ((il (D.take i ++ List.replicate (n - i) 0)).map (.int .i64)) 0 t false)) _ [.int .i64 (k : Nat), .int .i64 (0 : Nat), .int .i64 (0 : Nat)] rfl ⟨0, 0, k, 0, rfl, by omega, by omega, by simpa using hk, rfl, hE, by rw [← hD]; simp, hr⟩ ?_)
  clear hr hE H1
  rintro q _ H1 ⟨i, o, c, t, rfl, hi, ho, hcw, rfl, hE, hdr, hr⟩
  refine L_reg [0, 1, 7, 8, 28, 29, 30] (fun K hK => ?_)
  simp
  apply hK; clear hK K
  refine L_dec (i < n) (by simp) (fun hlt => ?_) (fun hge => L_exit ?_)
  · refine L_block ?_
    obtain ⟨g1, g2⟩ := at_drop hD hlt hdr
    have hless := at_less (l := n - (i + 1)) (o := o) (k := c) (by rw [show n - (i + 1) + 1 = n - i by omega]; exact hcw)
    have hcb := Nat.lt_trans hcw (ways_b (n - i) o (by omega) (by omega))
    have hwp := ways_pos (n - (i + 1)) o
    have hwl := ways_b (n - (i + 1)) o (by omega) (by omega)
    have e1 : (n : Int) - 1 - (i : Int) = ((n - (i + 1) : Nat) : Int) := by omega
    refine L_reg [0, 1, 7, 8, 9, 28, 29] (fun K hK => ?_)
    simp
    apply hK; clear hK K
    obtain ⟨w, hw⟩ : ∃ w, ways (n - (i + 1)) o = w := ⟨_, rfl⟩
    rw [hw] at g1 g2 hless hwp hwl
    have hml : min (c / w) o * w ≤ c := Nat.le_trans (Nat.mul_le_mul_right _ (Nat.min_le_left _ _)) (Nat.div_mul_le_self _ _)
    have hmo : min (c / w) o ≤ o := Nat.min_le_right _ _
    have hdv : c / w ≤ c := Nat.div_le_self _ _
    obtain ⟨qq, hqq⟩ : ∃ qq, c / w = qq := ⟨_, rfl⟩
    obtain ⟨r, hrr⟩ : ∃ r, min qq o = r := ⟨_, rfl⟩
    rw [hqq, hrr] at g1 g2 hless hml hmo
    rw [hqq] at hdv
    have hmin : min (qq : Int) (o : Int) = (r : Int) := by omega
    refine L_reg [0, 1, 7, 8, 9, 10, 28, 29] (fun K hK => ?_)
    simp [okFn_low, wrap_i64 (a := (n : Int) - 1) (by omega), e1, wrap_i64 (a := ((n - (i + 1) : Nat) : Int)) (by omega)]
    refine ways_q (n - (i + 1)) o (by omega) (by omega) _ _ ?_
    rw [hw]
    simp
    apply hK; clear hK K
    have hw0 : ¬ (w : Int) = 0 := by omega
    have hq : ∀ tt ll, binV Try.prog .quo tt ll (.int .i64 (c : Int)) (.int .i64 (w : Int)) = some (.int .i64 (qq : Int)) := fun tt ll => by
      rw [b_quo hw0, tdiv_nat, hqq, wrap_i64 (by omega)]
    refine L_reg [0, 1, 7, 8, 9, 10, 11, 28, 29] (fun K hK => ?_)
    simp [hq, hmin]
    apply hK; clear hK K
    obtain ⟨z, hz⟩ : ∃ z, r * w = z := ⟨_, rfl⟩
    have e3 : (r : Int) * (w : Int) = (z : Int) := by rw [← hz]; simp
    rw [hz] at g1 hless hml
    have e4 : (c : Int) - (z : Int) = ((c - z : Nat) : Int) := by omega
    refine L_reg [0, 1, 7, 8, 9, 11, 28, 29] (fun K hK => ?_)
    simp [e3, wrap_i64 (a := (z : Int)) (by omega), e4, wrap_i64 (a := ((c - z : Nat) : Int)) (by omega)]
    apply hK; clear hK K
    have htl : (D.take i).length = i := by simp; omega
    have hst := store_row (P := Try.prog) (u := 3) (p := i) sc3 (x := .int .i64 (r : Nat)) (y := .int .i64 (0 : Nat)) rfl hr (by
      rw [List.getElem?_map]
      have : (il (D.take i ++ List.replicate (n - i) 0))[i]? = some ((0 : Nat) : Int) := by
        simp only [il, List.getElem?_map]
        rw [List.getElem?_append_right (by omega), htl, Nat.sub_self, List.getElem?_replicate, if_pos (by omega)]
        rfl
      rw [this]; rfl)
    have hset : (il (D.take i ++ List.replicate (n - i) 0)).set i (r : Int) = il (D.take (i + 1) ++ List.replicate (n - (i + 1)) 0) := by
      rw [il_set, List.set_append, if_neg (by omega), htl, g2, show n - i = (n - (i + 1)) + 1 by omega, List.replicate_succ]
      simp
    rw [← List.map_set (f := AV.int .i64), hset] at hst
    refine L_reg [0, 1, 7, 8, 11, 28, 29] (fun K hK => ?_)
    simp [hlt, hst]
    apply hK; clear hK K
    refine L_reg [0, 1, 7, 8, 28, 29, 54] (fun K hK => ?_)
    simp
    apply hK; clear hK K
    have hr2 := get_set (o' := AObj.row ((il (D.take (i + 1) ++ List.replicate (n - (i + 1)) 0)).map (.int .i64)) 0 (min t i) false) hr
    have hE2 := hE.set (r := H.length) (AObj.row ((il (D.take (i + 1) ++ List.replicate (n - (i + 1)) 0)).map (.int .i64)) 0 (min t i) false) (Nat.le_refl _)
    by_cases cr : r = o
    · rw [if_pos cr] at g1 hless
      refine L_true (by simp [cr]) ?_
      refine L_reg [0, 1, 7, 8, 28, 29] (fun K hK => ?_)
      simp [wrap_i64 (a := (o : Int) + 1) (by omega)]
      apply hK; clear hK K
      refine L_reg [0, 1, 7, 8, 28, 29] (fun K hK => ?_)
      simp [wrap_i64 (a := (i : Int) + 1) (by omega)]
      apply hK; clear hK K
      exact ⟨n - (i + 1), [.int .i64 (c - z : Nat), .int .i64 (o + 1 : Nat), .int .i64 (i + 1 : Nat)], by omega, by simp, i + 1, o + 1, c - z, _, rfl, by omega, by omega, hless, rfl, hE2, g1, hr2⟩
    · rw [if_neg cr] at g1 hless
      refine L_false (by simp; omega) ?_
      refine L_reg [0, 1, 7, 8, 28, 29] (fun K hK => ?_)
      simp [wrap_i64 (a := (i : Int) + 1) (by omega)]
      apply hK; clear hK K
      exact ⟨n - (i + 1), [.int .i64 (c - z : Nat), .int .i64 (o : Nat), .int .i64 (i + 1 : Nat)], by omega, by simp, i + 1, o, c - z, _, rfl, by omega, by omega, hless, rfl, hE2, g1, hr2⟩
  · have e : i = n := by omega
    subst e
    rw [List.take_of_length_le (by omega), Nat.sub_self, List.replicate_zero, List.append_nil] at hr
    refine L_reg [4, 5] (fun K hK => ?_)
    simp
    apply hK; clear hK K
    exact L_ret ⟨.inr rfl, _, rfl, h _ _ (.inr ⟨H.length, 0, t, Nat.le_refl _, by simp [il_len, hl], hr⟩) hE⟩
set_option maxHeartbeats 1000000 in
theorem AtR_ok {n k : Nat} (h1 : 1 ≤ n) (h9 : n ≤ 9) (hk : k < ways n 0) (H : AH) (Q : AV → AH → Prop) (h : ∀ v' H', OwnF H.length H' v' ((il (atS n 0 k)).map (.int .i64)) → Ext H H' → Q (.tuple [v', .int .i64 0]) H') : AC Try.prog 28 [.int .i64 (n : Nat), .int .i64 (k : Nat)] H Q := by
  have hb := bx_nat h1 h9
  have hwb := ways_b n 0 (by omega) h9
  have hcn : cntS (n : Int) = (ways n 0 : Nat) := by unfold cntS; rw [if_pos hb]; simp
  refine L_body 59 Try.func28 rfl rfl ?_
  refine L_reg [0, 1] (fun K hK => ?_)
  simp
  apply hK; clear hK K
  refine L_reg [0, 1, 6, 7] (fun K hK => ?_)
  simp [okFn_low]
  refine Count_q 24 (.inr rfl) (n : Int) _ _ ?_
  simp [hb, hcn]
  apply hK; clear hK K
  have hd : decide (0 ≤ (k : Int) ∧ (k : Int) ≤ (ways n 0 : Int) - 1) = true := by rw [decide_eq_true_eq]; omega
  refine L_reg [0, 1, 7, 25] (fun K hK => ?_)
  simp [okFn_low, wrap_i64 (a := (ways n 0 : Int) - 1) (by omega)]
  refine in_q (k : Int) 0 ((ways n 0 : Int) - 1) _ _ ?_
  rw [hd]
  simp [pickV]
  apply hK; clear hK K
  refine L_false rfl ?_
  refine L_reg [0, 1, 7, 27] (fun K hK => ?_)
  simp
  apply hK; clear hK K
  refine L_false rfl ?_
  refine L_reg [0, 1, 8] (fun K hK => ?_)
  simp
  apply hK; clear hK K
  obtain ⟨D, hD⟩ : ∃ D, atS n 0 k = D := ⟨_, rfl⟩
  have hl : D.length = n := by rw [← hD, atS_len]
  have hDr : rg 0 D = true := by rw [← hD]; exact atS_rg n 0 k
  rw [hD] at h
  refine L_block (L_loopV [1, 8] (fun q vs H' => ∃ (i c : Nat) (u : AV), q = n - i ∧ i ≤ n ∧ c < ways (n - i) (opn 0 (D.take i)) ∧ vs = [.int .i64 c, u] ∧ Ext H H' ∧ D.drop i = atS (n - i) (opn 0 (D.take i)) c ∧ OwnF H.length H' u ((il (D.take i)).map (.int .i64))) _ [.int .i64 (k : Nat), .slice none 0 0 0 1 false] rfl ⟨0, k, _, rfl, by omega, by simpa [opn] using hk, rfl, .refl _, by rw [← hD]; simp [opn], by simp [il]; exact OwnF.nil _ _⟩ ?_)
  rintro q _ H1 ⟨i, c, u, rfl, hi, hcw, rfl, hE, hdr, ho⟩
  have hu := ownF_ls ho
  have htl : (D.take i).length = i := by simp; omega
  have hul := ils_len hu
  rw [htl] at hul
  refine L_reg [0, 1, 8, 32] (fun K hK => ?_)
  simp [hul]
  apply hK; clear hK K
  refine L_dec (i < n) (by simp) (fun hlt => ?_) (fun hge => L_exit ?_)
  · refine L_block ?_
    obtain ⟨g1, g2⟩ := at_drop hD hlt hdr
    have hole := opn_le (D.take i) 0
    have hrt := rg_take (i := i) hDr
    have hopn := opn_snoc (D.take i) 0
    obtain ⟨o, hoo⟩ : ∃ o, opn 0 (D.take i) = o := ⟨_, rfl⟩
    have hless := at_less (l := n - (i + 1)) (o := opn 0 (D.take i)) (k := c) (by rw [show n - (i + 1) + 1 = n - i by omega]; exact hcw)
    have hcb := Nat.lt_trans hcw (ways_b (n - i) _ (by omega) (by omega))
    have hcw2 : c < o * ways (n - (i + 1)) o + ways (n - (i + 1)) (o + 1) := by
      rw [show n - i = (n - (i + 1)) + 1 by omega, hoo] at hcw; exact hcw
    rw [hoo] at g1 g2 hless hole
    have hwp := ways_pos (n - (i + 1)) o
    obtain ⟨w, hw⟩ : ∃ w, ways (n - (i + 1)) o = w := ⟨_, rfl⟩
    rw [hw] at g1 g2 hless hwp hcw2
    refine L_reg [0, 1, 8, 9] (fun K hK => ?_)
    simp
    apply hK; clear hK K
    refine L_block (L_loopV [1, 9] (fun q vs H' => ∃ (r : Nat), q = o - r ∧ r ≤ o ∧ r * w ≤ c ∧ vs = [.int .i64 (c - r * w : Nat), .int .i64 r] ∧ Ext H H' ∧ OwnF H.length H' u ((il (D.take i)).map (.int .i64))) _ [.int .i64 (c : Nat), .int .i64 (0 : Nat)] rfl ⟨0, rfl, by omega, by omega, by simp, hE, ho⟩ ?_)
    clear hE ho hu hul
    rintro q _ H2 ⟨r, rfl, hro, hrw, rfl, hE, ho⟩
    have hu := ownF_ls ho
    refine L_block ?_
    obtain ⟨v1, H3, v2, H4, a1, a2, a3, a4⟩ := next_app hu (by rw [il_len, htl]; omega) (r : Nat)
    rw [← il_snoc] at a3
    refine L_reg [0, 1, 8, 9, 10] (fun K hK => ?_)
    simp [a1, a2]
    apply hK; clear hK K
    have hE4 := hE.trans a4
    have ho4 : OwnF H.length H4 u ((il (D.take i)).map (.int .i64)) := ownF_ext ho a4
    have hl5 := ils_len a3
    rw [List.length_append, htl] at hl5
    have hrn : rg 0 (D.take i ++ [r]) = true := by rw [rg_snoc, hrt, Bool.true_and, decide_eq_true_eq]; omega
    have e1 : (n : Int) - ((i : Int) + 1) = ((n - (i + 1) : Nat) : Int) := by omega
    obtain ⟨o2, ho2⟩ : ∃ o2, opn 0 (D.take i ++ [r]) = o2 := ⟨_, rfl⟩
    have ho3 := hopn r
    rw [ho2, hoo] at ho3
    have ho4' : o2 ≤ o + 1 := by rw [ho3]; split <;> omega
    obtain ⟨w2, hw2⟩ : ∃ w2, ways (n - (i + 1)) o2 = w2 := ⟨_, rfl⟩
    refine L_reg [0, 1, 8, 9, 11] (fun K hK => ?_)
    simp [okFn_low]
    refine many_q (D.take i ++ [r]) hrn (by simp; omega) v2 _ a3 _ ?_
    rw [ho2]
    simp [okFn_low, hl5, e1, wrap_i64 (a := ((n - (i + 1) : Nat) : Int)) (by omega)]
    refine intoR_q (-1) (by omega) (n - (i + 1)) o2 (by omega) (by omega) _ _ ?_
    rw [rfI_ways, hw2]
    simp
    apply hK; clear hK K
    refine L_reg [0, 1, 8, 9, 11, 48] (fun K hK => ?_)
    simp
    apply hK; clear hK K
    have fin : c - r * w < w2 → min (c / w) o = r := fun hlt2 => by
      by_cases cr : r = o
      · subst cr
        have : r ≤ c / w := (Nat.le_div_iff_mul_le hwp).2 hrw
        omega
      · rw [if_neg cr] at ho3
        have e : w2 = w := by rw [← hw2, ← hw, ho3]
        rw [e] at hlt2
        have : c / w = r := by
          apply Nat.div_eq_of_lt_le
          · exact hrw
          · rw [Nat.succ_mul]; omega
        omega
    by_cases c2 : c - r * w < w2
    · have hr := fin c2
      rw [hr] at g1 g2 hless
      refine L_true (by simp; omega) (L_exit ?_)
      obtain ⟨v', H5, happ, ho5, hE5⟩ := ownF_append (P := Try.prog) (m := 1) (x := .int .i64 (r : Nat)) hE4 el22 el22 ho4 rfl (by simp [il_len]; omega)
      refine L_reg [0, 1, 8] (fun K hK => ?_)
      simp [happ]
      apply hK; clear hK K
      have hopr : opn 0 (D.take (i + 1)) = if r = o then o + 1 else o := by rw [g2, hopn r, hoo]
      refine ⟨n - (i + 1), [.int .i64 (c - r * w : Nat), v'], by omega, by simp, i + 1, c - r * w, v', rfl, by omega, by rw [hopr]; exact hless, rfl, hE5, by rw [hopr]; exact g1, ?_⟩
      rw [g2, il_snoc, List.map_append]
      exact ho5
    · have cr : r < o := by
        apply Classical.byContradiction
        intro hno
        have e : r = o := by omega
        subst e
        rw [if_pos rfl] at ho3
        rw [ho3] at hw2
        rw [hw2] at hcw2
        omega
      rw [if_neg (by omega)] at ho3
      have e : w2 = w := by rw [← hw2, ← hw, ho3]
      rw [e] at c2 ⊢
      have e2 : (r + 1) * w = r * w + w := Nat.succ_mul _ _
      obtain ⟨z, hz⟩ : ∃ z, r * w = z := ⟨_, rfl⟩
      rw [hz] at c2 e2 ⊢
      have e4 : ((c - z : Nat) : Int) - (w : Int) = ((c - (z + w) : Nat) : Int) := by omega
      refine L_false (by simp; omega) ?_
      refine L_reg [0, 1, 8, 9] (fun K hK => ?_)
      simp [e4, wrap_i64 (a := ((c - (z + w) : Nat) : Int)) (by omega)]
      apply hK; clear hK K
      refine L_reg [0, 1, 8, 9] (fun K hK => ?_)
      simp [wrap_i64 (a := (r : Int) + 1) (by omega)]
      apply hK; clear hK K
      exact ⟨o - (r + 1), [.int .i64 (c - (r + 1) * w : Nat), .int .i64 (r + 1 : Nat)], by omega, by rw [e2]; simp, r + 1, rfl, by omega, by omega, rfl, hE4, ho4⟩
  · have e : i = n := by omega
    subst e
    rw [List.take_of_length_le (by omega)] at ho
    refine L_reg [4, 5] (fun K hK => ?_)
    simp
    apply hK; clear hK K
    exact L_ret ⟨.inr rfl, _, rfl, h _ _ ho hE⟩
end Go.Proofs.Ytjaefngmidllgaa.St
