/- CheckPlan of the program and of the reference. -/
import Derived.Test.YtbimapbcpmeooaaPlQ
namespace Go.Proofs.Ytbimapbcpmeooaa.Cl
open Go Go.Proofs.Ytbimapbcpmeooaa Go.Proofs.Ytbimapbcpmeooaa.AX
set_option maxRecDepth 100000
set_option linter.unusedVariables false
theorem ri_hi {H : AH} {v : AV} {T : List Ti} (h : Rs 2 H v (ti T)) (h0 : 0 < T.length) {m : Nat} (hm : m ≤ T.length) : ∃ u, aSlice Try.prog 32 v none (some (.int .i64 (m : Int))) none = some u ∧ Rs 2 H u (ti (T.take m)) := by
  obtain ⟨r, off, ver, sz, full, rfl, hld⟩ := h
  obtain ⟨r', -, rfl, -⟩ := hld 0 (by rw [ti_len]; exact h0)
  refine ⟨_, slice_hi slz32 r off _ ver full (by rw [ti_len]; exact hm), r, off + 0, ver, 2, _, by rw [ti_len (T.take m), List.length_take, Nat.min_eq_left hm], fun i hi => ?_⟩
  have hi' : i < m := by simp [ti] at hi; omega
  obtain ⟨r2, e1, e2, e3⟩ := hld i (by rw [ti_len]; omega)
  refine ⟨r2, e1, e2, ?_⟩
  rw [Nat.add_zero, e3]
  simp [ti]
theorem okR {n a : Int} : (decide (0 ≤ a) && decide (a ≤ n - 1)) = okS n a := by
  unfold okS
  rw [Bool.eq_iff_iff]; simp; omega
theorem CheckR_ac (n : Int) (T : List Ti) (v : AV) (hT : T.length ≤ 1000000) (H : AH) (hv : Rs 2 H v (ti T)) (Q : AV → AH → Prop) (h : ∀ H', Ext H H' → Q (.int .i64 (errP n T)) H') : AC Try.prog 38 [.agg [.int .i64 n, v]] H Q := by
  have hu1 := rs_one hv
  obtain ⟨I67, i67, z67⟩ := zeroT_some zt67
  refine L_body 55 Try.func38 rfl rfl ?_
  refine L_reg [1] (fun K hK => ?_)
  simp [AV.isU, acells]
  apply hK; clear hK K
  have hE : Ext H (H ++ [AObj.row [.int .i64 n, v] 0 0 false]) := .push _ _
  have r1 : (H ++ [AObj.row [.int .i64 n, v] 0 0 false])[H.length]? = some (.row [.int .i64 n, v] 0 0 false) := by simp
  generalize H ++ [AObj.row [.int .i64 n, v] 0 0 false] = HA at *
  have e1 : ld HA H.length 0 0 = some (.int .i64 n) := by rw [ld_row r1]; rfl
  have e3 : ld HA H.length 1 0 = some v := by rw [ld_row r1]; exact known_one hu1
  have hvA := hv.ext hE
  have hvl := ri_len hv
  have bad : ∀ e : Int, errP n T = e → ∀ HX, Ext HA HX → Q (.int .i64 e) HX := fun e he HX hX => by rw [← he]; exact h _ (hE.trans hX)
  refine L_reg [1, 8] (fun K hK => ?_)
  simp [okFn_low, e1]
  refine in_ac n 1 8 _ _ ?_
  simp
  apply hK; clear hK K
  by_cases c1 : 1 ≤ n ∧ n ≤ 8
  · refine L_false (by simp; omega) ?_
    refine L_reg [1, 12] (fun K hK => ?_)
    simp [e3, hvl]
    apply hK; clear hK K
    refine L_dec (28 < T.length) (by simp; omega) (fun c3 => ?_) (fun c3 => ?_)
    · refine L_reg [2] (fun K hK => ?_)
      simp
      apply hK; clear hK K
      exact L_ret ⟨.inr rfl, _, rfl, bad 3 (by unfold errP; rw [if_pos c1, if_pos c3]) _ (.refl _)⟩
    have hP : errP n T = errT n [] T := by unfold errP; rw [if_pos c1, if_neg c3]
    refine L_reg [1, 3] (fun K hK => ?_)
    simp
    apply hK; clear hK K
    refine L_block (L_loopV [3] (fun q vs H' => ∃ (i : Nat), q = T.length - i ∧ i ≤ T.length ∧ vs = [.int .i64 i] ∧ Ext HA H' ∧ errT n (T.take i) (T.drop i) = errP n T) _ [.int .i64 (0 : Nat)] rfl ⟨0, rfl, by omega, rfl, .refl _, hP.symm⟩ ?_)
    rintro q _ H1 ⟨i, rfl, hi, rfl, hE1, hc⟩
    refine L_reg [1, 3, 17] (fun K hK => ?_)
    simp [hE1.ld e3, hvl]
    apply hK; clear hK K
    refine L_dec (i < T.length) (by simp) (fun hlt => ?_) (fun hge => L_exit ?_)
    · refine L_block ?_
      obtain ⟨r', p', v', x1, -, -, y1⟩ := ri_ix (hvA.ext hE1) hlt
      have hTk : T.take (i + 1) = T.take i ++ [T[i]] := by rw [List.take_add_one, List.getElem?_eq_getElem hlt]; rfl
      rw [List.drop_eq_getElem_cons hlt] at hc
      generalize T[i] = p at y1 hTk hc
      obtain ⟨x, y⟩ := p
      have r6 : (H1 ++ [AObj.row [.int .i64 0, .int .i64 0] 0 0 false])[H1.length]? = some (.row [.int .i64 0, .int .i64 0] 0 0 false) := by simp
      have hst6 := st_two (u := 67) ag67 (x := .int .i64 x) (y := .int .i64 y) r6 (by simp) (by simp) rfl rfl
      refine L_reg [1, 3, 4] (fun K hK => ?_)
      simp [hE1.ld e3, x1, y1, i67, z67, hst6]
      apply hK; clear hK K
      have r6' := get_set (o' := .row [.int .i64 x, .int .i64 y] 0 0 false) r6
      have hE2 : Ext H1 ((H1 ++ [AObj.row [.int .i64 0, .int .i64 0] 0 0 false]).set H1.length (.row [.int .i64 x, .int .i64 y] 0 0 false)) := (Ext.push _ _).set _ (Nat.le_refl _)
      simp only [List.set_append_right _ _ (Nat.le_refl H1.length), Nat.sub_self, List.set_cons_zero] at r6' hE2 ⊢
      generalize H1 ++ [AObj.row [.int .i64 x, .int .i64 y] 0 0 false] = H2 at *
      have f0 : ld H2 H1.length 0 0 = some (.int .i64 x) := by rw [ld_row r6']; rfl
      have f1 : ld H2 H1.length 1 0 = some (.int .i64 y) := by rw [ld_row r6']; rfl
      have hE12 := hE1.trans hE2
      have e1' := hE12.ld e1
      have e3' := hE12.ld e3
      obtain ⟨u, s1, s2⟩ := ri_hi (hvA.ext hE12) (by omega) hi
      have hln : (T.take i).length ≤ 1000000 := by simp; omega
      clear hE1 hE2 x1 y1 hst6 r6
      rw [errT] at hc
      have ia := fun Q h => in_ac x 0 (n - 1) H2 Q h
      have ib := fun Q h => in_ac y 0 (n - 1) H2 Q h
      simp only [okR] at ia ib
      by_cases ca : okS n x = true
      · rw [ca] at ia
        by_cases cb : okS n y = true
        · rw [cb] at ib
          refine L_reg [1, 3, 4, 40] (fun K hK => ?_)
          simp [okFn_low, f0, e1', wrap_i64 (a := n - 1) (by omega)]
          refine ia _ ?_
          simp [okFn_low, f1, e1', wrap_i64 (a := n - 1) (by omega)]
          refine ib _ ?_
          simp [pickV]
          apply hK; clear hK K
          refine L_false rfl ?_
          rw [if_pos ⟨ca, cb⟩] at hc
          refine L_reg [1, 3, 4, 45] (fun K hK => ?_)
          simp [f0, f1]
          apply hK; clear hK K
          refine L_dec (x = y) (by simp; rw [Bool.eq_iff_iff, beq_iff_eq, decide_eq_true_iff]) (fun c => ?_) (fun c => ?_)
          · refine L_reg [2] (fun K hK => ?_)
            simp
            apply hK; clear hK K
            exact L_ret ⟨.inr rfl, _, rfl, bad 13 (by rw [← hc, if_pos c]) _ hE12⟩
          rw [if_neg c] at hc
          refine L_regQ mixed [1, 3, 54] (by kernel_rfl) (fun K hK => ?_)
          simp [okFn_low, e3', s1, f0, f1, okFn_low]
          refine exQ_mk (fun Q hQ => hasR_q (T.take i) x y u hln _ s2 Q hQ) ?_
          simp
          apply hK; clear hK K
          by_cases ch : hasT (T.take i) x y = true
          · refine L_true (by rw [ch]; rfl) ?_
            refine L_reg [2] (fun K hK => ?_)
            simp
            apply hK; clear hK K
            exact L_ret ⟨.inr rfl, _, rfl, bad 6 (by rw [← hc, if_pos ch]) _ hE12⟩
          · refine L_false (by simpa using ch) ?_
            rw [if_neg ch, ← hTk] at hc
            refine L_reg [1, 3] (fun K hK => ?_)
            simp [wrap_i64 (a := (i : Int) + 1) (by omega)]
            apply hK; clear hK K
            exact ⟨T.length - (i + 1), [.int .i64 (i + 1 : Nat)], by omega, by simp, i + 1, rfl, by omega, rfl, hE12, hc⟩
        · have cb' : okS n y = false := by simpa using cb
          rw [cb'] at ib
          refine L_reg [1, 3, 4, 40] (fun K hK => ?_)
          simp [okFn_low, f0, e1', wrap_i64 (a := n - 1) (by omega)]
          refine ia _ ?_
          simp [okFn_low, f1, e1', wrap_i64 (a := n - 1) (by omega)]
          refine ib _ ?_
          simp [pickV]
          apply hK; clear hK K
          refine L_true rfl ?_
          refine L_reg [2] (fun K hK => ?_)
          simp
          apply hK; clear hK K
          exact L_ret ⟨.inr rfl, _, rfl, bad 2 (by rw [← hc, if_neg (fun h => cb h.2)]) _ hE12⟩
      · have ca' : okS n x = false := by simpa using ca
        rw [ca'] at ia
        refine L_reg [1, 3, 4, 40] (fun K hK => ?_)
        simp [okFn_low, f0, e1', wrap_i64 (a := n - 1) (by omega)]
        refine ia _ ?_
        simp [pickV]
        apply hK; clear hK K
        refine L_true rfl ?_
        refine L_reg [2] (fun K hK => ?_)
        simp
        apply hK; clear hK K
        exact L_ret ⟨.inr rfl, _, rfl, bad 2 (by rw [← hc, if_neg (fun h => ca h.1)]) _ hE12⟩
    · have e : i = T.length := by omega
      subst e
      rw [List.take_length, List.drop_length, errT] at hc
      refine L_reg [2] (fun K hK => ?_)
      simp
      apply hK; clear hK K
      exact L_ret ⟨.inr rfl, _, rfl, bad 0 hc.symm _ hE1⟩
  · refine L_true (by simp; omega) ?_
    refine L_reg [2] (fun K hK => ?_)
    simp
    apply hK; clear hK K
    exact L_ret ⟨.inr rfl, _, rfl, bad 1 (by unfold errP; rw [if_neg c1]) _ (.refl _)⟩
theorem CheckP_ac (n : Int) (T : List Ti) (v : AV) (hT : T.length ≤ 1000000) (H : AH) (hv : Rs 2 H v (ti T)) (Q : AV → AH → Prop) (h : ∀ H', Ext H H' → Q (.int .i64 (errP n T)) H') : AC Try.prog 37 [.agg [.int .i64 n, v]] H Q := by
  have hu1 := rs_one hv
  obtain ⟨I99, i99, z99⟩ := zeroT_some zt99s
  refine L_body 11 Try.func37 rfl rfl ?_
  refine L_reg [1] (fun K hK => ?_)
  simp [AV.isU, acells]
  apply hK; clear hK K
  have hE : Ext H (H ++ [AObj.row [.int .i64 n, v] 0 0 false]) := .push _ _
  have r1 : (H ++ [AObj.row [.int .i64 n, v] 0 0 false])[H.length]? = some (.row [.int .i64 n, v] 0 0 false) := by simp
  generalize H ++ [AObj.row [.int .i64 n, v] 0 0 false] = HA at *
  have l1 := ld_two (u := 34) ag34 r1 rfl hu1
  rw [ld34] at l1
  have go : ∀ (m : Int) (g : Nat → Nat → Bool) (H1 : AH), storeV Try.prog 99 (H1 ++ [AObj.row (se 0 ff) 0 0 false]) (.ptr H1.length 0 0) (.agg (se m g)) = some (none, (H1 ++ [AObj.row (se 0 ff) 0 0 false]).set H1.length (.row (se m g) 0 0 false)) ∧ Ext H1 ((H1 ++ [AObj.row (se 0 ff) 0 0 false]).set H1.length (.row (se m g) 0 0 false)) := fun m g H1 =>
    ⟨st_se (m := 0) (f := ff) (s := 0) (by simp), (Ext.push _ _).set _ (Nat.le_refl _)⟩
  refine L_reg [4] (fun K hK => ?_)
  simp [okFn_low, l1]
  refine seatingOf_ac n T v hT _ (hv.ext hE) _ (fun c H1 hE1 => ?_) (fun c H1 hE1 => ?_)
  · obtain ⟨k1, k2⟩ := go 0 ff H1
    simp [i99, z99, k1]
    apply hK; clear hK K
    simp only [List.set_append_right _ _ (Nat.le_refl H1.length), Nat.sub_self, List.set_cons_zero] at k2
    refine L_reg [2] (fun K hK => ?_)
    simp
    apply hK; clear hK K
    exact L_ret ⟨.inr rfl, _, rfl, h _ ((hE.trans hE1).trans k2)⟩
  · obtain ⟨k1, k2⟩ := go n (gT T) H1
    simp [i99, z99, k1]
    apply hK; clear hK K
    simp only [List.set_append_right _ _ (Nat.le_refl H1.length), Nat.sub_self, List.set_cons_zero] at k2
    refine L_reg [2] (fun K hK => ?_)
    simp
    apply hK; clear hK K
    exact L_ret ⟨.inr rfl, _, rfl, by rw [c] at h; exact h _ ((hE.trans hE1).trans k2)⟩
end Go.Proofs.Ytbimapbcpmeooaa.Cl
