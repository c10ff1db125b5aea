/- Counting; checks of numbers and of lengths. -/
import Derived.Test.YtjaefngmidllgaaBas
namespace Go.Proofs.Ytjaefngmidllgaa.St
open Go Go.Proofs.Ytjaefngmidllgaa Go.Proofs.Ytjaefngmidllgaa.AX
set_option maxRecDepth 100000
set_option linter.unusedVariables false
theorem ways_b (l o : Nat) (h : l + o ≤ 10) (h9 : l ≤ 9) : ways l o < 1000000000000 := ways_lt l (by omega) o (by omega)
theorem ways_q : ∀ (l o : Nat), l + o ≤ 10 → l ≤ 9 → ∀ (H : AH) (Q : AV → AH → Prop), Q (.int .i64 (ways l o : Nat)) H → AC Try.prog 63 [.int .i64 (l : Nat), .int .i64 (o : Nat)] H Q
  | 0, o, h, h9, H, Q, hq => by
    refine L_body 19 Try.func63 rfl rfl ?_
    refine L_reg [0, 1] (fun K hK => ?_)
    simp
    apply hK; clear hK K
    refine L_reg [0, 1, 6] (fun K hK => ?_)
    simp
    apply hK; clear hK K
    refine L_true (by simp) ?_
    refine L_reg [4] (fun K hK => ?_)
    simp
    apply hK; clear hK K
    exact L_ret ⟨.inr rfl, _, rfl, hq⟩
  | l + 1, o, h, h9, H, Q, hq => by
    refine L_body 19 Try.func63 rfl rfl ?_
    refine L_reg [0, 1] (fun K hK => ?_)
    simp
    apply hK; clear hK K
    refine L_reg [0, 1, 6] (fun K hK => ?_)
    simp
    apply hK; clear hK K
    refine L_false (by simp; omega) ?_
    have b1 := ways_b l o (by omega) (by omega)
    have b2 := ways_b l (o + 1) (by omega) (by omega)
    have hmul : o * ways l o ≤ 10 * 1000000000000 := Nat.mul_le_mul (by omega) (by omega)
    have e1 : ((l + 1 : Nat) : Int) - 1 = (l : Int) := by omega
    have e2 : (o : Int) + 1 = ((o + 1 : Nat) : Int) := by omega
    refine L_reg [4] (fun K hK => ?_)
    simp [okFn_low]
    rw [wrap_i64 (a := (l : Int)) (by omega)]
    refine ways_q l o (by omega) (by omega) _ _ ?_
    simp [okFn_low]
    rw [wrap_i64 (a := (l : Int)) (by omega), e2, wrap_i64 (a := ((o + 1 : Nat) : Int)) (by omega)]
    refine ways_q l (o + 1) (by omega) (by omega) _ _ ?_
    have e3 : (o : Int) * (ways l o : Int) = ((o * ways l o : Nat) : Int) := by simp
    rw [e3]
    simp only [ways] at hq
    generalize o * ways l o = a at hmul hq ⊢
    generalize ways l o = w at b1
    generalize ways l (o + 1) = b at b2 hq ⊢
    have e4 : (a : Int) + (b : Int) = ((a + b : Nat) : Int) := by simp
    simp [wrap_i64 (a := (a : Int)) (by omega), wrap_i64 (a := (a : Int) + (b : Int)) (by omega)]
    apply hK; clear hK K
    exact L_ret ⟨.inr rfl, _, rfl, (by simpa using hq)⟩
theorem into_q : ∀ (n k : Nat), n ≤ 9 → k ≤ 9 → ∀ (H : AH) (Q : AV → AH → Prop), Q (.int .i64 (sti n k : Nat)) H → AC Try.prog 68 [.int .i64 (n : Nat), .int .i64 (k : Nat)] H Q
  | 0, 0, _, _, H, Q, hq => by
    refine L_body 29 Try.func68 rfl rfl ?_
    refine L_reg [0, 1] (fun K hK => ?_)
    simp
    apply hK; clear hK K
    refine L_reg [0, 1, 10] (fun K hK => ?_)
    simp [pickV]
    apply hK; clear hK K
    refine L_true rfl ?_
    refine L_reg [4] (fun K hK => ?_)
    simp
    apply hK; clear hK K
    exact L_ret ⟨.inr rfl, _, rfl, hq⟩
  | 0, k + 1, _, _, H, Q, hq => by
    have e : (((k + 1 : Nat) : Int) == 0) = false := by simp; omega
    refine L_body 29 Try.func68 rfl rfl ?_
    refine L_reg [0, 1] (fun K hK => ?_)
    simp
    apply hK; clear hK K
    refine L_reg [0, 1, 10] (fun K hK => ?_)
    simp [pickV]
    apply hK; clear hK K
    refine L_false (by simp; omega) ?_
    refine L_reg [0, 1, 16] (fun K hK => ?_)
    simp [pickV]
    apply hK; clear hK K
    refine L_true rfl ?_
    refine L_reg [4] (fun K hK => ?_)
    simp
    apply hK; clear hK K
    exact L_ret ⟨.inr rfl, _, rfl, hq⟩
  | n + 1, 0, _, _, H, Q, hq => by
    have e : ((n : Int) + 1 == 0) = false := by simp; omega
    refine L_body 29 Try.func68 rfl rfl ?_
    refine L_reg [0, 1] (fun K hK => ?_)
    simp
    apply hK; clear hK K
    refine L_reg [0, 1, 10] (fun K hK => ?_)
    simp [pickV, e]
    apply hK; clear hK K
    refine L_false rfl ?_
    refine L_reg [0, 1, 16] (fun K hK => ?_)
    simp [pickV, e]
    apply hK; clear hK K
    refine L_true rfl ?_
    refine L_reg [4] (fun K hK => ?_)
    simp
    apply hK; clear hK K
    exact L_ret ⟨.inr rfl, _, rfl, hq⟩
  | n + 1, k + 1, hn, hk, H, Q, hq => by
    have e : ((n : Int) + 1 == 0) = false := by simp; omega
    have e' : ((k : Int) + 1 == 0) = false := by simp; omega
    refine L_body 29 Try.func68 rfl rfl ?_
    refine L_reg [0, 1] (fun K hK => ?_)
    simp
    apply hK; clear hK K
    refine L_reg [0, 1, 10] (fun K hK => ?_)
    simp [pickV, e]
    apply hK; clear hK K
    refine L_false rfl ?_
    refine L_reg [0, 1, 16] (fun K hK => ?_)
    simp [pickV, e, e']
    apply hK; clear hK K
    refine L_false rfl ?_
    have b1 := sti_lt n (by omega) k (by omega)
    have b2 := sti_lt n (by omega) (k + 1) (by omega)
    have hmul : (k + 1) * sti n (k + 1) ≤ 9 * 1000000000 := Nat.mul_le_mul (by omega) (by omega)
    refine L_reg [4] (fun K hK => ?_)
    simp [okFn_low]
    rw [wrap_i64 (a := (n : Int)) (by omega), wrap_i64 (a := (k : Int)) (by omega)]
    refine into_q n k (by omega) (by omega) _ _ ?_
    simp [okFn_low]
    rw [wrap_i64 (a := (n : Int)) (by omega), show (k : Int) + 1 = ((k + 1 : Nat) : Int) by omega]
    refine into_q n (k + 1) (by omega) (by omega) _ _ ?_
    simp only [sti] at hq
    have e3 : ((k : Int) + 1) * (sti n (k + 1) : Int) = (((k + 1) * sti n (k + 1) : Nat) : Int) := by simp
    generalize (k + 1) * sti n (k + 1) = a at hmul hq e3
    generalize sti n (k + 1) = w at b2 e3 ⊢
    generalize sti n k = b at b1 hq ⊢
    simp [e3, wrap_i64 (a := (a : Int)) (by omega), wrap_i64 (a := (b : Int) + (a : Int)) (by omega)]
    apply hK; clear hK K
    exact L_ret ⟨.inr rfl, _, rfl, (by simpa using hq)⟩
theorem intoR_q (w : Int) (hw : -1 ≤ w ∧ w ≤ 9) : ∀ (m r : Nat), m + r ≤ 10 → m ≤ 9 → ∀ (H : AH) (Q : AV → AH → Prop), Q (.int .i64 (rfI w m r : Nat)) H → AC Try.prog 64 [.int .i64 (r : Nat), .int .i64 (m : Nat), .int .i64 w] H Q
  | 0, r, h, h9, H, Q, hq => by
    refine L_body 30 Try.func64 rfl rfl ?_
    refine L_reg [0, 1, 2] (fun K hK => ?_)
    simp
    apply hK; clear hK K
    refine L_reg [0, 1, 2, 8] (fun K hK => ?_)
    simp
    apply hK; clear hK K
    refine L_true (by simp) ?_
    unfold rfI at hq
    by_cases c : w < 0 ∨ (r : Int) = w
    · rw [if_pos c] at hq
      have : (w < 0 → True) ∧ (¬ w < 0 → (r : Int) = w) := ⟨fun _ => trivial, fun h => c.resolve_left h⟩
      by_cases c1 : w < 0
      · refine L_reg [15] (fun K hK => ?_)
        simp [c1, pickV]
        apply hK; clear hK K
        refine L_true rfl ?_
        refine L_reg [6] (fun K hK => ?_)
        simp
        apply hK; clear hK K
        exact L_ret ⟨.inr rfl, _, rfl, hq⟩
      · have c2 := c.resolve_left c1
        refine L_reg [15] (fun K hK => ?_)
        simp [c1, pickV]
        apply hK; clear hK K
        refine L_true (by simpa using c2) ?_
        refine L_reg [6] (fun K hK => ?_)
        simp
        apply hK; clear hK K
        exact L_ret ⟨.inr rfl, _, rfl, hq⟩
    · rw [if_neg c] at hq
      have c1 : ¬ w < 0 := fun h => c (.inl h)
      have c2 : ¬ (r : Int) = w := fun h => c (.inr h)
      refine L_reg [15] (fun K hK => ?_)
      simp [c1, pickV]
      apply hK; clear hK K
      refine L_false (by simpa using c2) ?_
      refine L_reg [6] (fun K hK => ?_)
      simp
      apply hK; clear hK K
      exact L_ret ⟨.inr rfl, _, rfl, hq⟩
  | m + 1, r, h, h9, H, Q, hq => by
    refine L_body 30 Try.func64 rfl rfl ?_
    refine L_reg [0, 1, 2] (fun K hK => ?_)
    simp
    apply hK; clear hK K
    refine L_reg [0, 1, 2, 8] (fun K hK => ?_)
    simp
    apply hK; clear hK K
    refine L_false (by simp; omega) ?_
    have b1 := Nat.lt_of_le_of_lt (rfI_le w m r) (ways_b m r (by omega) (by omega))
    have b2 := Nat.lt_of_le_of_lt (rfI_le w m (r + 1)) (ways_b m (r + 1) (by omega) (by omega))
    have hmul : r * rfI w m r ≤ 10 * 1000000000000 := Nat.mul_le_mul (by omega) (by omega)
    refine L_reg [6] (fun K hK => ?_)
    simp [okFn_low]
    rw [wrap_i64 (a := (m : Int)) (by omega)]
    refine intoR_q w hw m r (by omega) (by omega) _ _ ?_
    simp [okFn_low]
    rw [wrap_i64 (a := (m : Int)) (by omega), show (r : Int) + 1 = ((r + 1 : Nat) : Int) by omega, wrap_i64 (a := ((r + 1 : Nat) : Int)) (by omega)]
    refine intoR_q w hw m (r + 1) (by omega) (by omega) _ _ ?_
    have e3 : (r : Int) * (rfI w m r : Int) = ((r * rfI w m r : Nat) : Int) := by simp
    rw [e3]
    simp only [rfI] at hq
    generalize r * rfI w m r = a at hmul hq ⊢
    generalize rfI w m r = x at b1
    generalize rfI w m (r + 1) = b at b2 hq ⊢
    have e4 : (a : Int) + (b : Int) = ((a + b : Nat) : Int) := by simp
    simp [wrap_i64 (a := (a : Int)) (by omega), wrap_i64 (a := (a : Int) + (b : Int)) (by omega)]
    apply hK; clear hK K
    exact L_ret ⟨.inr rfl, _, rfl, (by simpa using hq)⟩
theorem in_q (x lo hi : Int) (H : AH) (Q : AV → AH → Prop) (h : Q (.bool (decide (lo ≤ x ∧ x ≤ hi))) H) : AC Try.prog 67 [.int .i64 x, .int .i64 lo, .int .i64 hi] H Q := by
  refine L_body 15 Try.func67 rfl rfl ?_
  refine L_reg [0, 1, 2] (fun K hK => ?_)
  simp
  apply hK; clear hK K
  refine L_reg [6] (fun K hK => ?_)
  suffices hk : K [(6, .bool (decide (lo ≤ x ∧ x ≤ hi)))] H by
    by_cases h1 : lo ≤ x
    · simp [h1, pickV]
      simpa [h1] using hk
    · simp [h1, pickV]
      simpa [h1] using hk
  apply hK; clear hK K
  exact L_ret ⟨.inr rfl, _, rfl, h⟩
/-- The error of a number of boxes. -/
def bxE (n : Int) : Int := if n < 1 ∨ 9 < n then 1 else 0
theorem boxes_q (n : Int) (H : AH) (Q : AV → AH → Prop) (h : Q (.int .i64 (bxE n)) H) : AC Try.prog 66 [.int .i64 n] H Q := by
  refine L_body 9 Try.func66 rfl rfl ?_
  refine L_reg [0] (fun K hK => ?_)
  simp
  apply hK; clear hK K
  unfold bxE at h
  by_cases c1 : n < 1
  · rw [if_pos (.inl c1)] at h
    refine L_reg [8] (fun K hK => ?_)
    simp [c1, pickV]
    apply hK; clear hK K
    refine L_true rfl ?_
    refine L_reg [2] (fun K hK => ?_)
    simp
    apply hK; clear hK K
    exact L_ret ⟨.inr rfl, _, rfl, h⟩
  · by_cases c2 : 9 < n
    · rw [if_pos (.inr c2)] at h
      refine L_reg [8] (fun K hK => ?_)
      simp [c1, pickV]
      apply hK; clear hK K
      refine L_true (by simpa using c2) ?_
      refine L_reg [2] (fun K hK => ?_)
      simp
      apply hK; clear hK K
      exact L_ret ⟨.inr rfl, _, rfl, h⟩
    · rw [if_neg (by omega)] at h
      refine L_reg [8] (fun K hK => ?_)
      simp [c1, pickV]
      apply hK; clear hK K
      refine L_false (by simp; omega) ?_
      refine L_reg [2] (fun K hK => ?_)
      simp
      apply hK; clear hK K
      exact L_ret ⟨.inr rfl, _, rfl, h⟩
theorem sized_q (F : Nat) (hF : F = 59 ∨ F = 61) (l : List Int) (v : AV) (hlen : l.length ≤ 1000000) (H : AH) (hv : Ls H v l) (Q : AV → AH → Prop) (h : Q (.int .i64 (szE l.length)) H) : AC Try.prog F [v] H Q := by
  have hvl := ls_len hv
  rcases hF with rfl | rfl
  all_goals
    first | refine L_body 9 Try.func59 rfl rfl ?_ | refine L_body 9 Try.func61 rfl rfl ?_
    refine L_reg [0] (fun K hK => ?_)
    simp
    apply hK; clear hK K
    refine L_reg [0, 5] (fun K hK => ?_)
    simp [hvl]
    apply hK; clear hK K
    unfold szE at h
    by_cases c : l.length = 0
    · rw [if_pos c] at h
      refine L_true (by simpa using c) ?_
      refine L_reg [2] (fun K hK => ?_)
      simp
      apply hK; clear hK K
      exact L_ret ⟨.inr rfl, _, rfl, h⟩
    · rw [if_neg c] at h
      refine L_false (by simpa using c) ?_
      refine L_reg [8] (fun K hK => ?_)
      simp [hvl]
      apply hK; clear hK K
      by_cases c2 : 9 < l.length
      · rw [if_pos c2] at h
        refine L_true (by simp; omega) ?_
        refine L_reg [2] (fun K hK => ?_)
        simp
        apply hK; clear hK K
        exact L_ret ⟨.inr rfl, _, rfl, h⟩
      · rw [if_neg c2] at h
        refine L_false (by simp; omega) ?_
        refine L_reg [2] (fun K hK => ?_)
        simp
        apply hK; clear hK K
        exact L_ret ⟨.inr rfl, _, rfl, h⟩
/-- The rooms that are begun. -/
theorem many_q (d : List Nat) (hd : rg 0 d = true) (hlen : d.length ≤ 1000) (v : AV) (H : AH) (hv : Ls H v (il d)) (Q : AV → AH → Prop) (h : Q (.int .i64 (opn 0 d : Nat)) H) : AC Try.prog 65 [v] H Q := by
  have hvl := ils_len hv
  refine L_body 19 Try.func65 rfl rfl ?_
  refine L_reg [0] (fun K hK => ?_)
  simp
  apply hK; clear hK K
  refine L_reg [0, 3] (fun K hK => ?_)
  simp
  apply hK; clear hK K
  refine L_reg [0, 3, 4] (fun K hK => ?_)
  simp
  apply hK; clear hK K
  refine L_block (L_loopV [3, 4] (fun q vs H' => ∃ i : Nat, q = d.length - i ∧ i ≤ d.length ∧ vs = [.int .i64 (opn 0 (d.take i) : Nat), .int .i64 i] ∧ H = H') _ [.int .i64 (0 : Nat), .int .i64 (0 : Nat)] rfl ⟨0, rfl, by omega, by simp [opn], rfl⟩ ?_)
  rintro q _ _ ⟨i, rfl, hi, rfl, rfl⟩
  refine L_reg [0, 3, 4, 8] (fun K hK => ?_)
  simp [hvl]
  apply hK; clear hK K
  refine L_dec (i < d.length) (by simp) (fun hlt => ?_) (fun hge => L_exit ?_)
  · refine L_block ?_
    obtain ⟨rz, pz, vz, hix, hldz⟩ := il_ix hv hlt
    have hstep := opn_snoc (d.take i) 0 d[i]
    rw [List.take_append_getElem hlt] at hstep
    have hr := rg_take (i := i + 1) hd
    rw [← List.take_append_getElem hlt, rg_snoc, Bool.and_eq_true, decide_eq_true_eq] at hr
    have hle := opn_le (d.take i) 0
    have hlt2 : (d.take i).length = i := by simp; omega
    generalize d[i] = x at hldz hstep hr
    generalize opn 0 (d.take i) = m at *
    obtain ⟨M, hM⟩ : ∃ M, (if x = m then m + 1 else m) = M := ⟨_, rfl⟩
    have e2 : max (m : Int) ((x : Int) + 1) = (M : Int) := by
      split at hM <;> omega
    rw [hM] at hstep
    refine L_reg [0, 3, 4] (fun K hK => ?_)
    simp [hix, hldz, wrap_i64 (a := (x : Int) + 1) (by omega), e2]
    apply hK; clear hK K
    refine L_reg [0, 3, 4] (fun K hK => ?_)
    simp [wrap_i64 (a := (i : Int) + 1) (by omega)]
    apply hK; clear hK K
    exact ⟨d.length - (i + 1), [.int .i64 (M : Nat), .int .i64 (i + 1 : Nat)], by omega, by simp, i + 1, rfl, by omega, by rw [hstep], rfl⟩
  · have e : i = d.length := by omega
    subst e
    rw [List.take_length]
    refine L_reg [2] (fun K hK => ?_)
    simp
    apply hK; clear hK K
    exact L_ret ⟨.inr rfl, _, rfl, h⟩
end Go.Proofs.Ytjaefngmidllgaa.St
