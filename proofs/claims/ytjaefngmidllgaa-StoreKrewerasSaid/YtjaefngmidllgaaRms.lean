/- How many rooms a division has. -/
import Derived.Test.YtjaefngmidllgaaAll
namespace Go.Proofs.Ytjaefngmidllgaa.St
open Go Go.Proofs.Ytjaefngmidllgaa Go.Proofs.Ytjaefngmidllgaa.AX
set_option maxRecDepth 100000
set_option linter.unusedVariables false
theorem opn_pos {d : List Nat} (h : 0 < d.length) (hr : rg 0 d = true) : 1 ≤ opn 0 d := by
  cases d with
  | nil => simp at h
  | cons x d =>
    simp only [rg, Bool.and_eq_true, decide_eq_true_eq] at hr
    simp only [opn]
    have := opn_ge d (if x = 0 then 0 + 1 else 0)
    rw [if_pos (by omega)] at this ⊢
    omega
theorem max_q {d : List Nat} (h0 : 0 < d.length) (h9 : d.length ≤ 9) (hr : rg 0 d = true) (v : AV) (H : AH) (hv : Ls H v (il d)) (Q : AV → AH → Prop) (h : Q (.int .i64 ((opn 0 d - 1 : Nat) : Int)) H) : AC Try.prog 86 [v] H Q := by
  have hvl := ils_len hv
  refine L_body 25 Try.func86 rfl rfl ?_
  refine L_reg [0] (fun K hK => ?_)
  simp
  apply hK; clear hK K
  refine L_reg [0, 7] (fun K hK => ?_)
  simp [hvl]
  apply hK; clear hK K
  refine L_false (by simp; omega) ?_
  obtain ⟨r0, p0, v0, x0, y0⟩ := il_ix hv h0
  have x0' : ∀ k, aIndexAddr Try.prog 22 v (.int k 0) = some (.ptr r0 p0 v0) := fun k => by have := x0 k; simpa using this
  refine L_reg [0, 3] (fun K hK => ?_)
  simp [x0', y0]
  apply hK; clear hK K
  refine L_reg [0, 3, 4] (fun K hK => ?_)
  simp
  apply hK; clear hK K
  have hst : ∀ i, (hi : i < d.length) → max (opn 0 (d.take i) - 1) d[i] = opn 0 (d.take (i + 1)) - 1 := fun i hi => by
    have h1 := rg_take (i := i + 1) hr
    have h2 := opn_snoc (d.take i) 0 d[i]
    rw [List.take_append_getElem hi] at h2
    rw [← List.take_append_getElem hi, rg_snoc, Bool.and_eq_true, decide_eq_true_eq] at h1
    rw [h2]
    split <;> omega
  have hb : d[0] = opn 0 (d.take 1) - 1 := by
    have := hst 0 h0
    simpa [opn] using this
  rw [hb]
  refine L_block (L_loopV [3, 4] (fun q vs H' => ∃ i : Nat, q = d.length - i ∧ 1 ≤ i ∧ i ≤ d.length ∧ vs = [.int .i64 ((opn 0 (d.take i) - 1 : Nat) : Int), .int .i64 i] ∧ H = H') _ [.int .i64 ((opn 0 (d.take 1) - 1 : Nat) : Int), .int .i64 (1 : Nat)] rfl ⟨1, rfl, by omega, by omega, rfl, rfl⟩ ?_)
  rintro q _ _ ⟨i, rfl, hi1, hi, rfl, rfl⟩
  refine L_reg [0, 3, 4, 15] (fun K hK => ?_)
  simp [hvl]
  apply hK; clear hK K
  refine L_dec (i < d.length) (by simp) (fun hlt => ?_) (fun hge => L_exit ?_)
  · refine L_block ?_
    obtain ⟨r1, p1, v1, x1, y1⟩ := il_ix hv hlt
    have hs := hst i hlt
    generalize d[i] = x at y1 hs
    obtain ⟨a, ha⟩ : ∃ a, opn 0 (d.take i) - 1 = a := ⟨_, rfl⟩
    obtain ⟨b, hb2⟩ : ∃ b, opn 0 (d.take (i + 1)) - 1 = b := ⟨_, rfl⟩
    rw [ha, hb2] at hs
    rw [ha]
    have hm : max (a : Int) (x : Int) = (b : Int) := by omega
    refine L_reg [0, 3, 4] (fun K hK => ?_)
    simp [x1, y1, hm]
    apply hK; clear hK K
    refine L_reg [0, 3, 4] (fun K hK => ?_)
    simp [wrap_i64 (a := (i : Int) + 1) (by omega)]
    apply hK; clear hK K
    exact ⟨d.length - (i + 1), [.int .i64 (b : Nat), .int .i64 (i + 1 : Nat)], by omega, by simp, i + 1, rfl, by omega, by omega, by rw [hb2], rfl⟩
  · have e : i = d.length := by omega
    subst e
    rw [List.take_length]
    refine L_reg [2] (fun K hK => ?_)
    simp
    apply hK; clear hK K
    exact L_ret ⟨.inr rfl, _, rfl, h⟩
theorem rooms_q {d : List Nat} (h0 : 0 < d.length) (h9 : d.length ≤ 9) (hr : rg 0 d = true) (v : AV) (H : AH) (hv : Ls H v (il d)) (Q : AV → AH → Prop) (h : Q (.int .i64 (opn 0 d : Nat)) H) : AC Try.prog 46 [v] H Q := by
  have h1 := opn_pos h0 hr
  have h2 := opn_le d 0
  refine L_body 6 Try.func46 rfl rfl ?_
  refine L_reg [0] (fun K hK => ?_)
  simp
  apply hK; clear hK K
  refine L_reg [2] (fun K hK => ?_)
  simp [okFn_low]
  refine max_q h0 h9 hr v H hv _ ?_
  have e : ((opn 0 d - 1 : Nat) : Int) + 1 = (opn 0 d : Int) := by omega
  simp [e, wrap_i64 (a := (opn 0 d : Int)) (by omega)]
  apply hK; clear hK K
  exact L_ret ⟨.inr rfl, _, rfl, h⟩
end Go.Proofs.Ytjaefngmidllgaa.St
