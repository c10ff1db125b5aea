/- How many flat divisions there are: both ways. -/
import Derived.Test.YtjaefngmidllgaaFltT
import Derived.Test.YtjaefngmidllgaaArcR
import Derived.Test.YtjaefngmidllgaaNum
namespace Go.Proofs.Ytjaefngmidllgaa.St
open Go Go.Proofs.Ytjaefngmidllgaa Go.Proofs.Ytjaefngmidllgaa.AX
set_option maxRecDepth 100000
set_option linter.unusedVariables false
theorem flats_ac : ∀ (k : Nat) (d : List Nat) (n : Nat), d.length + k = n → n ≤ 9 → rg 0 d = true → ∀ (v : AV) (H : AH), Ls H v (il d) → ∀ Q : AV → AH → Prop, (∀ H', Ext H H' → Q (.int .i64 (flN k d : Nat)) H') → AC Try.prog 78 [.int .i64 (n : Nat), v] H Q := by
  intro k
  induction k with
  | zero =>
    intro d n hn h9 hr v H hv Q h
    refine L_body 37 Try.func78 rfl rfl ?_
    refine L_reg [0, 1] (fun K hK => ?_)
    simp
    apply hK; clear hK K
    refine L_reg [0, 1, 5] (fun K hK => ?_)
    simp [okFn_low]
    refine crossed_ac (by omega) v H hv _ fun H1 hE => ?_
    simp
    apply hK; clear hK K
    have hvl := ils_len (hv.ext hE)
    unfold flN at h
    refine L_reg [0, 1, 15] (fun K hK => ?_)
    simp
    apply hK; clear hK K
    by_cases c : crS d = 0
    · rw [if_pos c] at h
      refine L_false (by simp [c]) ?_
      refine L_reg [0, 1, 19] (fun K hK => ?_)
      simp [hvl]
      apply hK; clear hK K
      refine L_true (by simp; omega) ?_
      refine L_reg [4] (fun K hK => ?_)
      simp
      apply hK; clear hK K
      exact L_ret ⟨.inr rfl, _, rfl, h _ hE⟩
    · rw [if_neg c] at h
      refine L_true (by simp; omega) ?_
      refine L_reg [4] (fun K hK => ?_)
      simp
      apply hK; clear hK K
      exact L_ret ⟨.inr rfl, _, rfl, h _ hE⟩
  | succ k ih =>
    intro d n hn h9 hr v H hv Q h
    refine L_body 37 Try.func78 rfl rfl ?_
    refine L_reg [0, 1] (fun K hK => ?_)
    simp
    apply hK; clear hK K
    refine L_reg [0, 1, 5] (fun K hK => ?_)
    simp [okFn_low]
    refine crossed_ac (by omega) v H hv _ fun H1 hE => ?_
    simp
    apply hK; clear hK K
    have hvl := ils_len (hv.ext hE)
    have hle := flN_le (k + 1) d
    have hol := opn_le d 0
    have hwb := ways_b (k + 1) (opn 0 d) (by omega) (by omega)
    unfold flN at h hle
    refine L_reg [0, 1, 15] (fun K hK => ?_)
    simp
    apply hK; clear hK K
    by_cases c : crS d = 0
    · rw [if_pos c] at h hle
      refine L_false (by simp [c]) ?_
      refine L_reg [0, 1, 19] (fun K hK => ?_)
      simp [hvl]
      apply hK; clear hK K
      refine L_false (by simp; omega) ?_
      refine L_reg [0, 1, 7] (fun K hK => ?_)
      simp
      apply hK; clear hK K
      refine L_reg [0, 1, 7, 8] (fun K hK => ?_)
      simp
      apply hK; clear hK K
      obtain ⟨o, ho⟩ : ∃ o, opn 0 d = o := ⟨_, rfl⟩
      rw [ho] at h hle hol hwb
      refine L_block (L_loopV [7, 8] (fun q vs H' => ∃ (r a : Nat), q = o + 1 - r ∧ r ≤ o + 1 ∧ vs = [.int .i64 a, .int .i64 r] ∧ Ext H H' ∧ ((List.range (o + 1)).map fun r => flN k (d ++ [r])).sum = a + (((List.range (o + 1)).drop r).map fun r => flN k (d ++ [r])).sum) _ [.int .i64 (0 : Nat), .int .i64 (0 : Nat)] rfl ⟨0, 0, rfl, by omega, rfl, hE, by simp⟩ ?_)
      clear hE hvl
      rintro q _ H2 ⟨r, a, rfl, hro, rfl, hE, hs⟩
      have hv2 := hv.ext hE
      refine L_reg [0, 1, 7, 8, 23] (fun K hK => ?_)
      simp [okFn_low]
      refine many_q d hr (by omega) v _ hv2 _ ?_
      rw [ho]
      simp
      apply hK; clear hK K
      refine L_dec (r < o + 1) (by simp; omega) (fun hlt => ?_) (fun hge => L_exit ?_)
      · refine L_block ?_
        obtain ⟨v1, H3, v2, H4, a1, a2, a3, a4⟩ := next_app hv2 (by rw [il_len]; omega) (r : Nat)
        rw [← il_snoc] at a3
        rw [List.drop_eq_getElem_cons (by simp; exact hlt), List.map_cons, List.sum_cons, List.getElem_range] at hs
        refine L_reg [0, 1, 7, 8] (fun K hK => ?_)
        simp [okFn_low, a1, a2]
        refine ih (d ++ [r]) n (by simp; omega) h9 (by rw [rg_snoc, hr, Bool.true_and, decide_eq_true_eq]; omega) v2 H4 a3 _ fun H5 hE5 => ?_
        simp [wrap_i64 (a := (a : Int) + (flN k (d ++ [r]) : Int)) (by omega)]
        apply hK; clear hK K
        refine L_reg [0, 1, 7, 8] (fun K hK => ?_)
        simp [wrap_i64 (a := (r : Int) + 1) (by omega)]
        apply hK; clear hK K
        exact ⟨o + 1 - (r + 1), [.int .i64 (a + flN k (d ++ [r]) : Nat), .int .i64 (r + 1 : Nat)], by omega, by simp, r + 1, _, rfl, by omega, rfl, hE.trans (a4.trans hE5), by omega⟩
      · have e : r = o + 1 := by omega
        subst e
        rw [List.drop_of_length_le (by simp)] at hs
        simp only [List.map_nil, List.sum_nil, Nat.add_zero] at hs
        rw [hs] at h
        refine L_reg [4] (fun K hK => ?_)
        simp
        apply hK; clear hK K
        exact L_ret ⟨.inr rfl, _, rfl, h _ hE⟩
    · rw [if_neg c] at h
      refine L_true (by simp; omega) ?_
      refine L_reg [4] (fun K hK => ?_)
      simp
      apply hK; clear hK K
      exact L_ret ⟨.inr rfl, _, rfl, h _ hE⟩
/-- Flat's answer. -/
def fltS (n : Int) : Int := if bxE n = 0 then (catS n.toNat : Int) else 0
theorem FlatR_q (n : Int) (H : AH) (Q : AV → AH → Prop) (h : ∀ H', Ext H H' → Q (.tuple [.int .i64 (fltS n), .int .i64 (bxE n)]) H') : AC Try.prog 38 [.int .i64 n] H Q := by
  unfold fltS at h
  refine L_body 9 Try.func38 rfl rfl ?_
  refine L_reg [0] (fun K hK => ?_)
  simp
  apply hK; clear hK K
  refine L_reg [0, 6] (fun K hK => ?_)
  simp [okFn_low]
  refine in_q n 1 9 _ _ ?_
  simp
  apply hK; clear hK K
  by_cases c : bxE n = 0
  · rw [if_pos c, c] at h
    obtain ⟨m, rfl, h1, h2⟩ := bx_ok c
    refine L_false (by simp; omega) ?_
    refine L_reg [2, 3] (fun K hK => ?_)
    simp [okFn_low]
    refine flats_ac m [] m (by simp) h2 rfl _ H (Ls.nil H) _ fun H1 hE => ?_
    rw [flN_cat m (by omega)]
    simp
    apply hK; clear hK K
    exact L_ret ⟨.inr rfl, _, rfl, (by simpa using h H1 hE)⟩
  · rw [if_neg c] at h
    obtain ⟨h1, h2⟩ := bx_one c
    rw [h1] at h
    refine L_true (by simp; omega) ?_
    refine L_reg [2, 3] (fun K hK => ?_)
    simp
    apply hK; clear hK K
    exact L_ret ⟨.inr rfl, _, rfl, h _ (.refl _)⟩
theorem Flat_q (n : Int) (H : AH) (Q : AV → AH → Prop) (h : ∀ H', Ext H H' → Q (.tuple [.int .i64 (fltS n), .int .i64 (bxE n)]) H') : AC Try.prog 37 [.int .i64 n] H Q := by
  unfold fltS at h
  refine L_body 47 Try.func37 rfl rfl ?_
  refine L_reg [0] (fun K hK => ?_)
  simp
  apply hK; clear hK K
  refine L_reg [0, 4] (fun K hK => ?_)
  simp [okFn_low]
  refine boxes_q n _ _ ?_
  simp
  apply hK; clear hK K
  refine L_reg [0, 4, 12] (fun K hK => ?_)
  simp
  apply hK; clear hK K
  by_cases c : bxE n = 0
  · rw [if_pos c, c] at h
    obtain ⟨m, rfl, h1, h2⟩ := bx_ok c
    rw [c]
    refine L_false rfl ?_
    refine L_reg [0, 5] (fun K hK => ?_)
    simp
    apply hK; clear hK K
    have hE : Ext H (H ++ [AObj.row [.int .i64 1] 0 1 false]) := .push _ _
    have ho : OwnF H.length (H ++ [AObj.row [.int .i64 1] 0 1 false]) (.slice (some H.length) 0 1 0 1 false) ((il (catL 0)).map (.int .i64)) := .inr ⟨H.length, 0, 1, Nat.le_refl _, rfl, by simp [il, catL]⟩
    generalize H ++ [AObj.row [.int .i64 1] 0 1 false] = H1 at hE ho ⊢
    refine L_reg [0, 5, 6] (fun K hK => ?_)
    simp
    apply hK; clear hK K
    refine L_block (L_loopV [5, 6] (fun q vs H' => ∃ (i : Nat) (u : AV), q = m - i ∧ i ≤ m ∧ vs = [u, .int .i64 ((i + 1 : Nat) : Int)] ∧ Ext H H' ∧ OwnF H.length H' u ((il (catL i)).map (.int .i64))) _ [.slice (some H.length) 0 1 0 1 false, .int .i64 1] rfl ⟨0, _, rfl, by omega, by simp, hE, ho⟩ ?_)
    clear hE ho H1
    rintro q _ H1 ⟨i, u, rfl, hi, rfl, hE, ho⟩
    have hu := ownF_ls ho
    have hcl := catL_len i
    refine L_reg [0, 5, 6, 17] (fun K hK => ?_)
    simp
    apply hK; clear hK K
    refine L_dec (i < m) (by simp; omega) (fun hlt => ?_) (fun hge => L_exit ?_)
    · refine L_block ?_
      refine L_reg [0, 5, 6, 7] (fun K hK => ?_)
      simp
      apply hK; clear hK K
      refine L_reg [0, 5, 6, 7, 20, 21] (fun K hK => ?_)
      simp
      apply hK; clear hK K
      refine L_block (L_loopV [7, 21] (fun q vs H' => ∃ (j : Nat), q = i + 1 - j ∧ j ≤ i + 1 ∧ vs = [.int .i64 (cvS (catL i) (i + 1) j : Nat), .int .i64 j] ∧ H1 = H') _ [.int .i64 (0 : Nat), .int .i64 (0 : Nat)] rfl ⟨0, rfl, by omega, by simp [cvS], rfl⟩ ?_)
      rintro q _ _ ⟨j, rfl, hj, rfl, rfl⟩
      refine L_reg [0, 5, 6, 7, 20, 21, 22] (fun K hK => ?_)
      simp
      apply hK; clear hK K
      refine L_dec (j < i + 1) (by simp; omega) (fun hjl => ?_) (fun hjg => L_exit ?_)
      · refine L_block ?_
        refine L_reg [0, 5, 6, 7, 8, 20, 21] (fun K hK => ?_)
        simp
        apply hK; clear hK K
        obtain ⟨r1, p1, v1, x1, y1⟩ := il_ix hu (i := j) (by omega)
        obtain ⟨r2, p2, v2, x2, y2⟩ := il_ix hu (i := i - j) (by omega)
        rw [← ga_lt (by omega)] at y1 y2
        have b1 := cat_el i (by omega) j (by omega)
        have b2 := cat_el i (by omega) (i - j) (by omega)
        have b3 := cat_lt i (by omega) j (by omega)
        have b4 := cat_lt i (by omega) (j + 1) (by omega)
        have hcv : cvS (catL i) (i + 1) (j + 1) = cvS (catL i) (i + 1) j + ga (catL i) j * ga (catL i) (i - j) := by
          show cvS (catL i) (i + 1) j + ga (catL i) j * ga (catL i) (i + 1 - 1 - j) = _
          rw [show i + 1 - 1 - j = i - j by omega]
        have e3 : (ga (catL i) j : Int) * (ga (catL i) (i - j) : Int) = ((ga (catL i) j * ga (catL i) (i - j) : Nat) : Int) := by simp
        have hmul : ga (catL i) j * ga (catL i) (i - j) ≤ 100000 * 100000 := Nat.mul_le_mul (by omega) (by omega)
        obtain ⟨z, hz⟩ : ∃ z, ga (catL i) j * ga (catL i) (i - j) = z := ⟨_, rfl⟩
        rw [hz] at hcv e3 hmul
        have e4 : (i : Int) - (j : Int) = ((i - j : Nat) : Int) := by omega
        have hww : (i : Int) + 1 - 1 = (i : Int) := by omega
        refine L_regT mixed [0, 5, 6, 7, 20, 21] (by kernel_rfl) (fun K hK => ?_)
        simp [x1, y1, wrap_i64 (a := (i : Int)) (by omega), e4, wrap_i64 (a := ((i - j : Nat) : Int)) (by omega), x2, y2, e3, wrap_i64 (a := (z : Int)) (by omega), wrap_i64 (a := (cvS (catL i) (i + 1) j : Int) + (z : Int)) (by omega)]
        apply hK; clear hK K
        refine L_reg [0, 5, 6, 7, 20, 21] (fun K hK => ?_)
        simp [wrap_i64 (a := (j : Int) + 1) (by omega)]
        apply hK; clear hK K
        exact ⟨i + 1 - (j + 1), [.int .i64 (cvS (catL i) (i + 1) (j + 1) : Nat), .int .i64 (j + 1 : Nat)], by omega, by rw [hcv]; simp, j + 1, rfl, by omega, rfl, rfl⟩
      · have e : j = i + 1 := by omega
        subst e
        obtain ⟨u', H3, happ, ho3, hE3⟩ := ownF_append (P := Try.prog) (m := 1) (x := .int .i64 (cvS (catL i) (i + 1) (i + 1) : Nat)) hE el22 el22 ho rfl (by simp [il_len]; omega)
        refine L_reg [0, 5, 6] (fun K hK => ?_)
        simp [happ]
        apply hK; clear hK K
        refine L_reg [0, 5, 6] (fun K hK => ?_)
        simp [wrap_i64 (a := (i : Int) + 1 + 1) (by omega)]
        apply hK; clear hK K
        refine ⟨m - (i + 1), [u', .int .i64 ((i + 1 + 1 : Nat) : Int)], by omega, by simp, i + 1, u', rfl, by omega, rfl, hE3, ?_⟩
        show OwnF _ _ _ ((il (catL i ++ [cvS (catL i) (i + 1) (i + 1)])).map _)
        rw [il_snoc, List.map_append]
        exact ho3
    · have e : i = m := by omega
      subst e
      obtain ⟨r1, p1, v1, x1, y1⟩ := il_ix hu (i := i) (by omega)
      rw [← ga_lt (by omega)] at y1
      refine L_reg [2, 3] (fun K hK => ?_)
      simp [x1, y1]
      apply hK; clear hK K
      exact L_ret ⟨.inr rfl, _, rfl, (by simpa [catS] using h _ hE)⟩
  · rw [if_neg c] at h
    refine L_true (by simpa using c) ?_
    refine L_reg [2, 3] (fun K hK => ?_)
    simp
    apply hK; clear hK K
    exact L_ret ⟨.inr rfl, _, rfl, h _ (.refl _)⟩
end Go.Proofs.Ytjaefngmidllgaa.St
