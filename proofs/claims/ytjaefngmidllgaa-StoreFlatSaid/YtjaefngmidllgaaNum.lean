/- How many divisions there are; their numbers: both ways. -/
import Derived.Test.YtjaefngmidllgaaChk
namespace Go.Proofs.Ytjaefngmidllgaa.St
open Go Go.Proofs.Ytjaefngmidllgaa Go.Proofs.Ytjaefngmidllgaa.AX
set_option maxRecDepth 100000
set_option linter.unusedVariables false
theorem bx_ok {n : Int} (h : bxE n = 0) : ∃ m : Nat, n = m ∧ 1 ≤ m ∧ m ≤ 9 := by
  unfold bxE at h
  split at h
  · cases h
  · exact ⟨n.toNat, by omega, by omega, by omega⟩
theorem bx_nat {m : Nat} (h : 1 ≤ m) (h9 : m ≤ 9) : bxE (m : Int) = 0 := by unfold bxE; rw [if_neg (by omega)]
theorem bx_one {n : Int} (h : bxE n ≠ 0) : bxE n = 1 ∧ ¬ (1 ≤ n ∧ n ≤ 9) := by
  unfold bxE at h ⊢
  split at h
  · rename_i c; rw [if_pos c]; exact ⟨rfl, by omega⟩
  · exact absurd rfl h
/-- Count, both ways. -/
def cntS (n : Int) : Int := if bxE n = 0 then (ways n.toNat 0 : Int) else 0
theorem Count_q (F : Nat) (hF : F = 23 ∨ F = 24) (n : Int) (H : AH) (Q : AV → AH → Prop) (h : Q (.tuple [.int .i64 (cntS n), .int .i64 (bxE n)]) H) : AC Try.prog F [.int .i64 n] H Q := by
  unfold cntS at h
  rcases hF with rfl | rfl
  · refine L_body 12 Try.func23 rfl rfl ?_
    refine L_reg [0] (fun K hK => ?_)
    simp
    apply hK; clear hK K
    refine L_reg [0, 4] (fun K hK => ?_)
    simp [okFn_low]
    refine boxes_q n _ _ ?_
    simp
    apply hK; clear hK K
    refine L_reg [0, 4, 8] (fun K hK => ?_)
    simp
    apply hK; clear hK K
    by_cases c : bxE n = 0
    · rw [if_pos c, c] at h
      obtain ⟨m, rfl, h1, h2⟩ := bx_ok c
      refine L_false (by simpa using c) ?_
      refine L_reg [2, 3] (fun K hK => ?_)
      simp [okFn_low]
      refine ways_q m 0 (by omega) (by omega) _ _ ?_
      simp
      apply hK; clear hK K
      exact L_ret ⟨.inr rfl, _, rfl, (by simpa using h)⟩
    · rw [if_neg c] at h
      refine L_true (by simpa using c) ?_
      refine L_reg [2, 3] (fun K hK => ?_)
      simp
      apply hK; clear hK K
      exact L_ret ⟨.inr rfl, _, rfl, h⟩
  · refine L_body 9 Try.func24 rfl rfl ?_
    refine L_reg [0] (fun K hK => ?_)
    simp
    apply hK; clear hK K
    refine L_reg [0, 6] (fun K hK => ?_)
    simp [okFn_low]
    refine in_q n 1 9 _ _ ?_
    simp
    apply hK; clear hK K
    by_cases c : bxE n = 0
    · rw [if_pos c, c] at h
      obtain ⟨m, rfl, h1, h2⟩ := bx_ok c
      refine L_false (by simp; omega) ?_
      refine L_reg [2, 3] (fun K hK => ?_)
      simp [okFn_low]
      refine intoR_q (-1) (by omega) m 0 (by omega) (by omega) _ _ ?_
      rw [rfI_ways]
      simp
      apply hK; clear hK K
      exact L_ret ⟨.inr rfl, _, rfl, (by simpa using h)⟩
    · rw [if_neg c] at h
      obtain ⟨h1, h2⟩ := bx_one c
      rw [h1] at h
      refine L_true (by simp; omega) ?_
      refine L_reg [2, 3] (fun K hK => ?_)
      simp
      apply hK; clear hK K
      exact L_ret ⟨.inr rfl, _, rfl, h⟩
/-- Into, both ways. -/
def intE (n k : Int) : Int := if bxE n = 0 ∧ 1 ≤ k ∧ k ≤ n then 0 else 1
def intS (n k : Int) : Int := if intE n k = 0 then (sti n.toNat k.toNat : Int) else 0
theorem Into_q (F : Nat) (hF : F = 25 ∨ F = 26) (n k : Int) (H : AH) (Q : AV → AH → Prop) (h : Q (.tuple [.int .i64 (intS n k), .int .i64 (intE n k)]) H) : AC Try.prog F [.int .i64 n, .int .i64 k] H Q := by
  unfold intS at h
  rcases hF with rfl | rfl
  · refine L_body 22 Try.func25 rfl rfl ?_
    refine L_reg [0, 1] (fun K hK => ?_)
    simp
    apply hK; clear hK K
    refine L_reg [0, 1, 6] (fun K hK => ?_)
    simp [okFn_low]
    refine boxes_q n _ _ ?_
    simp
    apply hK; clear hK K
    refine L_reg [0, 1, 6, 10] (fun K hK => ?_)
    simp
    apply hK; clear hK K
    by_cases c : bxE n = 0
    · obtain ⟨m, rfl, h1, h2⟩ := bx_ok c
      refine L_false (by simpa using c) ?_
      by_cases ck : 1 ≤ k ∧ k ≤ (m : Int)
      · have e : intE (m : Int) k = 0 := by unfold intE; rw [if_pos ⟨c, ck⟩]
        rw [e, if_pos rfl] at h
        obtain ⟨j, rfl⟩ : ∃ j : Nat, k = j := ⟨k.toNat, by omega⟩
        have e1 : ¬ (j : Int) < 1 := by omega
        have e2 : ¬ (m : Int) < j := by omega
        refine L_reg [0, 1, 18] (fun K hK => ?_)
        simp [pickV, e1]
        apply hK; clear hK K
        refine L_false (by simp; omega) ?_
        refine L_reg [4, 5] (fun K hK => ?_)
        simp [okFn_low]
        refine into_q m j (by omega) (by omega) _ _ ?_
        simp
        apply hK; clear hK K
        exact L_ret ⟨.inr rfl, _, rfl, (by simpa using h)⟩
      · have e : intE (m : Int) k = 1 := by unfold intE; rw [if_neg (fun h => ck h.2)]
        rw [e, if_neg (by decide)] at h
        by_cases c1 : k < 1
        · refine L_reg [0, 1, 18] (fun K hK => ?_)
          simp [pickV, c1]
          apply hK; clear hK K
          refine L_true rfl ?_
          refine L_reg [4, 5] (fun K hK => ?_)
          simp
          apply hK; clear hK K
          exact L_ret ⟨.inr rfl, _, rfl, h⟩
        · refine L_reg [0, 1, 18] (fun K hK => ?_)
          simp [pickV, c1]
          apply hK; clear hK K
          refine L_true (by simp; omega) ?_
          refine L_reg [4, 5] (fun K hK => ?_)
          simp
          apply hK; clear hK K
          exact L_ret ⟨.inr rfl, _, rfl, h⟩
    · obtain ⟨h1, h2⟩ := bx_one c
      have e : intE n k = 1 := by unfold intE; rw [if_neg (fun h => c h.1)]
      rw [e, if_neg (by decide)] at h
      refine L_true (by simpa using c) ?_
      refine L_reg [4, 5] (fun K hK => ?_)
      simp
      apply hK; clear hK K
      rw [h1]
      exact L_ret ⟨.inr rfl, _, rfl, h⟩
  · refine L_body 18 Try.func26 rfl rfl ?_
    refine L_reg [0, 1] (fun K hK => ?_)
    simp
    apply hK; clear hK K
    by_cases c : bxE n = 0
    · obtain ⟨m, rfl, h1, h2⟩ := bx_ok c
      have e0 : decide (1 ≤ (m : Int) ∧ (m : Int) ≤ 9) = true := by simp; omega
      refine L_reg [0, 1, 14] (fun K hK => ?_)
      simp [okFn_low]
      refine in_q (m : Int) 1 9 _ _ ?_
      rw [e0]
      simp [okFn_low]
      refine in_q k 1 (m : Int) _ _ ?_
      simp [pickV]
      apply hK; clear hK K
      by_cases ck : 1 ≤ k ∧ k ≤ (m : Int)
      · have e : intE (m : Int) k = 0 := by unfold intE; rw [if_pos ⟨c, ck⟩]
        rw [e, if_pos rfl] at h
        obtain ⟨j, rfl⟩ : ∃ j : Nat, k = j := ⟨k.toNat, by omega⟩
        refine L_false (by simp; omega) ?_
        refine L_reg [4, 5] (fun K hK => ?_)
        simp [okFn_low]
        refine intoR_q (j : Int) (by omega) m 0 (by omega) (by omega) _ _ ?_
        rw [rfI_sti m (by omega) j (by omega)]
        simp
        apply hK; clear hK K
        exact L_ret ⟨.inr rfl, _, rfl, (by simpa using h)⟩
      · have e : intE (m : Int) k = 1 := by unfold intE; rw [if_neg (fun h => ck h.2)]
        rw [e, if_neg (by decide)] at h
        refine L_true (by simp; omega) ?_
        refine L_reg [4, 5] (fun K hK => ?_)
        simp
        apply hK; clear hK K
        exact L_ret ⟨.inr rfl, _, rfl, h⟩
    · obtain ⟨h1, h2⟩ := bx_one c
      have e : intE n k = 1 := by unfold intE; rw [if_neg (fun h => c h.1)]
      rw [e, if_neg (by decide)] at h
      have e0 : decide (1 ≤ n ∧ n ≤ 9) = false := by simp; omega
      refine L_reg [0, 1, 14] (fun K hK => ?_)
      simp [okFn_low]
      refine in_q n 1 9 _ _ ?_
      rw [e0]
      simp [pickV]
      apply hK; clear hK K
      refine L_true rfl ?_
      refine L_reg [4, 5] (fun K hK => ?_)
      simp
      apply hK; clear hK K
      exact L_ret ⟨.inr rfl, _, rfl, h⟩
/-- Number. -/
def numA (l : List Int) (d : List Nat) : Int := if chk l = 0 then (numS 0 d : Int) else 0
theorem Number_bad (F : Nat) (hF : F = 18 ∨ F = 19) (l : List Int) (v : AV) (hlen : l.length ≤ 1000000) (hc : chk l ≠ 0) (H : AH) (hv : Ls H v l) (Q : AV → AH → Prop) (h : Q (.tuple [.int .i64 0, .int .i64 (chk l)]) H) : AC Try.prog F [v] H Q := by
  rcases hF with rfl | rfl
  · refine L_body 39 Try.func18 rfl rfl ?_
    refine L_reg [0] (fun K hK => ?_)
    simp
    apply hK; clear hK K
    refine L_reg [0, 4] (fun K hK => ?_)
    simp [okFn_low]
    refine Check_q l v hlen _ hv _ ?_
    simp
    apply hK; clear hK K
    refine L_reg [0, 4, 12] (fun K hK => ?_)
    simp
    apply hK; clear hK K
    refine L_true (by simpa using hc) ?_
    refine L_reg [2, 3] (fun K hK => ?_)
    simp
    apply hK; clear hK K
    exact L_ret ⟨.inr rfl, _, rfl, h⟩
  · refine L_body 47 Try.func19 rfl rfl ?_
    refine L_reg [0] (fun K hK => ?_)
    simp
    apply hK; clear hK K
    refine L_reg [0, 4] (fun K hK => ?_)
    simp [okFn_low]
    refine CheckR_q l v hlen _ hv _ ?_
    simp
    apply hK; clear hK K
    refine L_reg [0, 4, 12] (fun K hK => ?_)
    simp
    apply hK; clear hK K
    refine L_true (by simpa using hc) ?_
    refine L_reg [2, 3] (fun K hK => ?_)
    simp
    apply hK; clear hK K
    exact L_ret ⟨.inr rfl, _, rfl, h⟩
theorem Number_ok {d : List Nat} (hd : OkD d) (v : AV) (H : AH) (hv : Ls H v (il d)) (Q : AV → AH → Prop) (h : Q (.tuple [.int .i64 (numS 0 d : Nat), .int .i64 0]) H) : AC Try.prog 18 [v] H Q := by
  have hlen : (il d).length ≤ 1000000 := by rw [il_len]; have := hd.len; omega
  have hvl := ils_len hv
  have h9 := hd.len
  have hc := chk_il hd
  refine L_body 39 Try.func18 rfl rfl ?_
  refine L_reg [0] (fun K hK => ?_)
  simp
  apply hK; clear hK K
  refine L_reg [0, 4] (fun K hK => ?_)
  simp [okFn_low]
  refine Check_q (il d) v hlen _ hv _ ?_
  simp [hc]
  apply hK; clear hK K
  refine L_reg [0, 4, 12] (fun K hK => ?_)
  simp
  apply hK; clear hK K
  refine L_false rfl ?_
  refine L_reg [0, 5] (fun K hK => ?_)
  simp
  apply hK; clear hK K
  refine L_reg [0, 5, 6] (fun K hK => ?_)
  simp
  apply hK; clear hK K
  refine L_reg [0, 5, 6, 14, 15, 16] (fun K hK => ?_)
  simp [hvl]
  apply hK; clear hK K
  have hbd : numS 0 d < 1000000000000 := Nat.lt_trans (numS_lt d 0 hd.rg) (ways_b _ _ (by omega) h9)
  refine L_block (L_loopV [5, 6, 16] (fun q vs H' => ∃ (i m a : Nat), q = d.length - i ∧ i ≤ d.length ∧ m ≤ i ∧ vs = [.int .i64 a, .int .i64 m, .int .i64 i] ∧ H = H' ∧ rg m (d.drop i) = true ∧ numS 0 d = a + numS m (d.drop i)) _ [.int .i64 (0 : Nat), .int .i64 (0 : Nat), .int .i64 (0 : Nat)] rfl ⟨0, 0, 0, rfl, by omega, by omega, rfl, rfl, hd.rg, by simp⟩ ?_)
  rintro q _ _ ⟨i, m, a, rfl, hi, hm, rfl, rfl, hr, hn⟩
  refine L_reg [0, 5, 6, 14, 15, 16, 17] (fun K hK => ?_)
  simp
  apply hK; clear hK K
  refine L_dec (i < d.length) (by simp) (fun hlt => ?_) (fun hge => L_exit ?_)
  · refine L_block ?_
    obtain ⟨rz, pz, vz, hix, hldz⟩ := il_ix hv hlt
    rw [List.drop_eq_getElem_cons hlt] at hr hn
    simp only [rg, numS, Bool.and_eq_true, decide_eq_true_eq] at hr hn
    have hdl : (d.drop (i + 1)).length = d.length - (i + 1) := by simp
    rw [hdl] at hn
    generalize d[i] = x at hldz hr hn
    refine L_reg [0, 5, 6, 7, 8, 14, 15, 16] (fun K hK => ?_)
    simp [hix, hldz]
    apply hK; clear hK K
    have b1 := ways_b (d.length - (i + 1)) m (by omega) (by omega)
    have hmul : x * ways (d.length - (i + 1)) m ≤ 10 * 1000000000000 := Nat.mul_le_mul (by omega) (by omega)
    have e1 : (d.length : Int) - 1 - (i : Int) = ((d.length - (i + 1) : Nat) : Int) := by omega
    refine L_reg [0, 5, 6, 8, 14, 15, 16] (fun K hK => ?_)
    simp [okFn_low, hvl, wrap_i64 (a := (d.length : Int) - 1) (by omega), e1, wrap_i64 (a := ((d.length - (i + 1) : Nat) : Int)) (by omega)]
    refine ways_q (d.length - (i + 1)) m (by omega) (by omega) _ _ ?_
    have e3 : (x : Int) * (ways (d.length - (i + 1)) m : Int) = ((x * ways (d.length - (i + 1)) m : Nat) : Int) := by simp
    generalize x * ways (d.length - (i + 1)) m = p at hmul hn e3
    generalize ways (d.length - (i + 1)) m = w at b1 e3 ⊢
    simp [e3, wrap_i64 (a := (p : Int)) (by omega), wrap_i64 (a := (a : Int) + (p : Int)) (by omega)]
    apply hK; clear hK K
    refine L_reg [0, 5, 6, 14, 15, 16, 34] (fun K hK => ?_)
    simp
    apply hK; clear hK K
    by_cases c : x = m
    · rw [if_pos c] at hr hn
      refine L_true (by simp [c]) ?_
      refine L_reg [0, 5, 6, 14, 15, 16] (fun K hK => ?_)
      simp [wrap_i64 (a := (m : Int) + 1) (by omega)]
      apply hK; clear hK K
      refine L_reg [0, 5, 6, 14, 15, 16] (fun K hK => ?_)
      simp [wrap_i64 (a := (i : Int) + 1) (by omega)]
      apply hK; clear hK K
      exact ⟨d.length - (i + 1), [.int .i64 (a + p : Nat), .int .i64 (m + 1 : Nat), .int .i64 (i + 1 : Nat)], by omega, by simp, i + 1, m + 1, a + p, rfl, by omega, by omega, rfl, rfl, hr.2, by omega⟩
    · rw [if_neg c] at hr hn
      refine L_false (by simp; omega) ?_
      refine L_reg [0, 5, 6, 14, 15, 16] (fun K hK => ?_)
      simp [wrap_i64 (a := (i : Int) + 1) (by omega)]
      apply hK; clear hK K
      exact ⟨d.length - (i + 1), [.int .i64 (a + p : Nat), .int .i64 (m : Nat), .int .i64 (i + 1 : Nat)], by omega, by simp, i + 1, m, a + p, rfl, by omega, by omega, rfl, rfl, hr.2, by omega⟩
  · have e : i = d.length := by omega
    subst e
    rw [List.drop_length] at hn
    simp only [numS, Nat.add_zero] at hn
    rw [← hn]
    refine L_reg [2, 3] (fun K hK => ?_)
    simp
    apply hK; clear hK K
    exact L_ret ⟨.inr rfl, _, rfl, h⟩
/-- A list copied, and one more number. -/
theorem next_app {H : AH} {x : AV} {m : List Int} (hx : Ls H x m) (hm : m.length ≤ 1000) (a : Int) : ∃ v1 H1 v2 H2, aAppend Try.prog (H ++ [.row [] 0 0 false]) 22 22 (.slice (some H.length) 0 0 0 1 false) x = some (v1, H1) ∧
    aAppend Try.prog (H1 ++ [.row [.int .i64 a] 0 1 false]) 22 22 v1 (.slice (some H1.length) 0 1 0 1 false) = some (v2, H2) ∧ Ls H2 v2 (m ++ [a]) ∧ Ext H H2 := by
  obtain ⟨v1, H1, h1, h2, h3⟩ := copy_append (P := Try.prog) el22 el22 hx (by omega)
  obtain ⟨v2, H2, h4, h5, h6⟩ := ownF_append (P := Try.prog) (m := 1) (x := .int .i64 a) h3 el22 el22 h2 rfl (by simp; omega)
  refine ⟨v1, H1, v2, H2, h1, h4, ?_, h6⟩
  have : m.map (AV.int .i64) ++ [.int .i64 a] = (m ++ [a]).map (.int .i64) := by simp
  rw [this] at h5
  exact ownF_ls h5
set_option maxHeartbeats 1000000 in
theorem NumberR_ok {d : List Nat} (hd : OkD d) (v : AV) (H : AH) (hv : Ls H v (il d)) (Q : AV → AH → Prop) (h : ∀ H', Ext H H' → Q (.tuple [.int .i64 (numS 0 d : Nat), .int .i64 0]) H') : AC Try.prog 19 [v] H Q := by
  have hlen : (il d).length ≤ 1000000 := by rw [il_len]; have := hd.len; omega
  have h9 := hd.len
  have hc := chk_il hd
  refine L_body 47 Try.func19 rfl rfl ?_
  refine L_reg [0] (fun K hK => ?_)
  simp
  apply hK; clear hK K
  refine L_reg [0, 4] (fun K hK => ?_)
  simp [okFn_low]
  refine CheckR_q (il d) v hlen _ hv _ ?_
  simp [hc]
  apply hK; clear hK K
  refine L_reg [0, 4, 12] (fun K hK => ?_)
  simp
  apply hK; clear hK K
  refine L_false rfl ?_
  refine L_reg [0, 5] (fun K hK => ?_)
  simp
  apply hK; clear hK K
  refine L_reg [0, 5, 6] (fun K hK => ?_)
  simp
  apply hK; clear hK K
  have hbd : numS 0 d < 1000000000000 := Nat.lt_trans (numS_lt d 0 hd.rg) (ways_b _ _ (by omega) h9)
  refine L_block (L_loopV [5, 6] (fun q vs H' => ∃ (i a : Nat), q = d.length - i ∧ i ≤ d.length ∧ vs = [.int .i64 a, .int .i64 i] ∧ Ext H H' ∧ numS 0 d = a + numS (opn 0 (d.take i)) (d.drop i)) _ [.int .i64 (0 : Nat), .int .i64 (0 : Nat)] rfl ⟨0, 0, rfl, by omega, rfl, .refl _, by simp [opn]⟩ ?_)
  rintro q _ H1 ⟨i, a, rfl, hi, rfl, hE, hn⟩
  have hvl := ils_len (hv.ext hE)
  refine L_reg [0, 5, 6, 17] (fun K hK => ?_)
  simp [hvl]
  apply hK; clear hK K
  refine L_dec (i < d.length) (by simp) (fun hlt => ?_) (fun hge => L_exit ?_)
  · refine L_block ?_
    have hrt := rg_take (i := i) hd.rg
    have hr1 := rg_take (i := i + 1) hd.rg
    have ho1 : opn 0 (d.take (i + 1)) = if d[i] = opn 0 (d.take i) then opn 0 (d.take i) + 1 else opn 0 (d.take i) := by rw [← List.take_append_getElem hlt, opn_snoc]
    rw [← List.take_append_getElem hlt, rg_snoc, Bool.and_eq_true, decide_eq_true_eq] at hr1
    have hole := opn_le (d.take i) 0
    have htl : (d.take i).length = i := by simp; omega
    rw [List.drop_eq_getElem_cons hlt] at hn
    simp only [numS] at hn
    have hdl : (d.drop (i + 1)).length = d.length - (i + 1) := by simp
    rw [hdl, ← ho1] at hn
    obtain ⟨x, hx⟩ : ∃ x, d[i] = x := ⟨_, rfl⟩
    rw [hx] at hn hr1
    obtain ⟨w, hw⟩ : ∃ w, ways (d.length - (i + 1)) (opn 0 (d.take i)) = w := ⟨_, rfl⟩
    have b1 := ways_b (d.length - (i + 1)) (opn 0 (d.take i)) (by omega) (by omega)
    rw [hw] at hn b1
    refine L_reg [0, 5, 6, 7] (fun K hK => ?_)
    simp
    apply hK; clear hK K
    refine L_block (L_loopV [5, 7] (fun q vs H' => ∃ (r : Nat), q = x - r ∧ r ≤ x ∧ vs = [.int .i64 (a + r * w : Nat), .int .i64 r] ∧ Ext H H') _ [.int .i64 (a : Nat), .int .i64 (0 : Nat)] rfl ⟨0, rfl, by omega, by simp, hE⟩ ?_)
    clear hE hvl
    rintro q _ H2 ⟨r, rfl, hrx, rfl, hE⟩
    have hv2 := hv.ext hE
    obtain ⟨rz, pz, vz, hix, hldz⟩ := il_ix hv2 hlt
    rw [hx] at hldz
    refine L_reg [0, 5, 6, 7, 25] (fun K hK => ?_)
    simp [hix, hldz]
    apply hK; clear hK K
    refine L_dec (r < x) (by simp) (fun hrl => ?_) (fun hrg => L_exit ?_)
    · refine L_block ?_
      obtain ⟨u, hu1, hu2⟩ := ls_hi hv2 (by rw [il_len]; omega) (m := i) (by rw [il_len]; omega)
      rw [← il_take] at hu2
      obtain ⟨v1, H3, v2, H4, a1, a2, a3, a4⟩ := next_app hu2 (by rw [il_len]; omega) (r : Nat)
      rw [← il_snoc] at a3
      refine L_reg [0, 5, 6, 7, 8] (fun K hK => ?_)
      simp [hu1, a1, a2]
      apply hK; clear hK K
      have hE4 := hE.trans a4
      have hl4 := ils_len (hv.ext hE4)
      have hl5 := ils_len a3
      rw [List.length_append, htl] at hl5
      have hrn : rg 0 (d.take i ++ [r]) = true := by rw [rg_snoc, hrt, Bool.true_and, decide_eq_true_eq]; omega
      have hon : opn 0 (d.take i ++ [r]) = opn 0 (d.take i) := by rw [opn_snoc, if_neg (by omega)]
      have e1 : (d.length : Int) - ((i : Int) + 1) = ((d.length - (i + 1) : Nat) : Int) := by omega
      refine L_reg [0, 5, 6, 7] (fun K hK => ?_)
      simp [okFn_low]
      refine many_q (d.take i ++ [r]) hrn (by simp; omega) v2 _ a3 _ ?_
      rw [hon]
      simp [okFn_low, hl4, hl5, e1, wrap_i64 (a := ((d.length - (i + 1) : Nat) : Int)) (by omega)]
      refine intoR_q (-1) (by omega) (d.length - (i + 1)) (opn 0 (d.take i)) (by omega) (by omega) _ _ ?_
      rw [rfI_ways, hw]
      have hmul : r * w + w ≤ x * w := by rw [← Nat.succ_mul]; exact Nat.mul_le_mul_right _ hrl
      have e2 : (r + 1) * w = r * w + w := Nat.succ_mul _ _
      obtain ⟨z, hz⟩ : ∃ z, r * w = z := ⟨_, rfl⟩
      have e3 : (r : Int) * (w : Int) = (z : Int) := by rw [← hz]; simp
      rw [hz] at hmul e2
      simp [e3, wrap_i64 (a := (a : Int) + (z : Int) + (w : Int)) (by omega)]
      apply hK; clear hK K
      refine L_reg [0, 5, 6, 7] (fun K hK => ?_)
      simp [wrap_i64 (a := (r : Int) + 1) (by omega)]
      apply hK; clear hK K
      exact ⟨x - (r + 1), [.int .i64 (a + (r + 1) * w : Nat), .int .i64 (r + 1 : Nat)], by omega, by rw [e2]; simp; omega, r + 1, rfl, by omega, rfl, hE4⟩
    · have e : r = x := by omega
      subst e
      refine L_reg [0, 5, 6] (fun K hK => ?_)
      simp [wrap_i64 (a := (i : Int) + 1) (by omega)]
      apply hK; clear hK K
      exact ⟨d.length - (i + 1), [.int .i64 (a + r * w : Nat), .int .i64 (i + 1 : Nat)], by omega, by simp, i + 1, a + r * w, rfl, by omega, rfl, hE, by omega⟩
  · have e : i = d.length := by omega
    subst e
    rw [List.drop_length] at hn
    simp only [numS, Nat.add_zero] at hn
    rw [← hn]
    refine L_reg [2, 3] (fun K hK => ?_)
    simp
    apply hK; clear hK K
    exact L_ret ⟨.inr rfl, _, rfl, h _ hE⟩
end Go.Proofs.Ytjaefngmidllgaa.St
