/- Numbers of divisions come from smaller ones: the walk. -/
import Derived.Test.YtjaefngmidllgaaFltP
import Derived.Test.YtjaefngmidllgaaWorks
namespace Go.Proofs.Ytjaefngmidllgaa.St
open Go Go.Proofs.Ytjaefngmidllgaa Go.Proofs.Ytjaefngmidllgaa.AX
set_option maxRecDepth 100000
set_option linter.unusedVariables false
theorem remN (a b : Nat) : ((a : Int)).tmod (b : Int) = ((a % b : Nat) : Int) := by
  rw [Int.tmod_eq_emod_of_nonneg (Int.natCast_nonneg _)]; simp
theorem sti_zero (n : Nat) (h : 1 ≤ n) : sti n 0 = 0 := by
  cases n with
  | zero => omega
  | succ n => rfl
theorem sti_big : ∀ (n k : Nat), n < k → sti n k = 0
  | 0, 0, h => by omega
  | 0, k + 1, _ => rfl
  | n + 1, 0, h => by omega
  | n + 1, k + 1, h => by simp only [sti, sti_big n k (by omega), sti_big n (k + 1) (by omega)]; omega
/-- The law's own Into. -/
theorem intoC_q (n k : Nat) (h1 : 1 ≤ n) (h9 : n ≤ 9) (hk : k ≤ 9) (H : AH) (Q : AV → AH → Prop) (h : Q (.int .i64 (sti n k : Nat)) H) : AC Try.prog 51 [.int .i64 (n : Nat), .int .i64 (k : Nat)] H Q := by
  have hb := bx_nat h1 h9
  refine L_body 27 Try.func51 rfl rfl ?_
  refine L_reg [0, 1] (fun K hK => ?_)
  simp
  apply hK; clear hK K
  refine L_reg [0, 1, 5, 6] (fun K hK => ?_)
  simp [okFn_low]
  refine Into_q 25 (.inl rfl) (n : Int) (k : Int) _ _ ?_
  simp
  apply hK; clear hK K
  by_cases c1 : k < 1
  · have e0 : k = 0 := by omega
    subst e0
    have e : intE (n : Int) ((0 : Nat) : Int) = 1 := by unfold intE; rw [if_neg (by omega)]
    have es : intS (n : Int) ((0 : Nat) : Int) = 0 := by unfold intS; rw [e, if_neg (by decide)]
    rw [sti_zero n h1] at h
    rw [e, es]
    refine L_reg [5, 6, 19] (fun K hK => ?_)
    simp [pickV]
    apply hK; clear hK K
    refine L_true rfl ?_
    refine L_reg [25] (fun K hK => ?_)
    simp [pickV]
    apply hK; clear hK K
    refine L_false rfl ?_
    refine L_reg [4] (fun K hK => ?_)
    simp
    apply hK; clear hK K
    exact L_ret ⟨.inr rfl, _, rfl, h⟩
  · by_cases c2 : n < k
    · have e : intE (n : Int) (k : Int) = 1 := by unfold intE; rw [if_neg (by omega)]
      have es : intS (n : Int) (k : Int) = 0 := by unfold intS; rw [e, if_neg (by decide)]
      rw [sti_big n k c2] at h
      rw [e, es]
      have c1' : ¬ (k : Int) < 1 := by omega
      refine L_reg [5, 6, 19] (fun K hK => ?_)
      simp [pickV, c1']
      apply hK; clear hK K
      refine L_true (by simpa using c2) ?_
      refine L_reg [25] (fun K hK => ?_)
      simp [pickV]
      apply hK; clear hK K
      refine L_false rfl ?_
      refine L_reg [4] (fun K hK => ?_)
      simp
      apply hK; clear hK K
      exact L_ret ⟨.inr rfl, _, rfl, h⟩
    · have e : intE (n : Int) (k : Int) = 0 := by unfold intE; rw [if_pos ⟨hb, by omega, by omega⟩]
      have es : intS (n : Int) (k : Int) = (sti n k : Nat) := by unfold intS; rw [e, if_pos rfl]; simp
      rw [e, es]
      have c1' : ¬ (k : Int) < 1 := by omega
      refine L_reg [5, 6, 19] (fun K hK => ?_)
      simp [pickV, c1']
      apply hK; clear hK K
      refine L_false (by simp; omega) ?_
      refine L_reg [4] (fun K hK => ?_)
      simp
      apply hK; clear hK K
      exact L_ret ⟨.inr rfl, _, rfl, h⟩
def sumI (n : Nat) : Nat → Nat
  | 0 => 0
  | i + 1 => sumI n i + sti n (i + 1)
theorem sumI_ways' : ∀ n, n < 9 → sumI (n + 1) (n + 1) = ways (n + 1) 0 := by decide +kernel
theorem sumI_ways (n : Nat) (h : n < 10) (h1 : 1 ≤ n) : sumI n n = ways n 0 := by
  obtain ⟨m, rfl⟩ : ∃ m, n = m + 1 := ⟨n - 1, by omega⟩
  exact sumI_ways' m (by omega)
theorem sumI_lt : ∀ n, n < 10 → ∀ i, i < 10 → sumI n i < 1000000 := by decide +kernel
theorem cat_next (i : Nat) : catS (i + 1) = cvS (catL i) (i + 1) (i + 1) := by
  unfold catS
  have hl := catL_len i
  rw [ga_lt (by rw [catL_len]; omega)]
  simp only [catL]
  rw [List.getElem_append_right (by omega)]
  simp [hl]
set_option maxHeartbeats 2000000 in
theorem rows_ac (x y : Nat) (hx : x < 256) (hy : y < 256) (H : AH) : AC Try.prog 10 [.int .u8 x, .int .u8 y] H fun v _ => v = .bool true := by
  refine L_body 111 Try.func10 rfl rfl ?_
  have q1 : (x : Int).tmod 8 = ((x % 8 : Nat) : Int) := remN x 8
  have lx := Nat.mod_lt x (show 0 < 8 by decide)
  obtain ⟨z, hz⟩ : ∃ z, x % 8 = z := ⟨_, rfl⟩
  rw [hz] at q1 lx
  obtain ⟨n, hn⟩ : ∃ n, z + 2 = n := ⟨_, rfl⟩
  have wn : IntKind.i64.wrap (2 + (z : Int)) = (n : Int) := by rw [wrap_i64 (by omega)]; omega
  have q2 := remN y n
  have ly := Nat.mod_lt y (show 0 < n by omega)
  obtain ⟨j, hj⟩ : ∃ j, y % n = j := ⟨_, rfl⟩
  rw [hj] at q2 ly
  obtain ⟨k, hk⟩ : ∃ k, j + 1 = k := ⟨_, rfl⟩
  have wk : IntKind.i64.wrap (1 + (j : Int)) = (k : Int) := by rw [wrap_i64 (by omega)]; omega
  refine L_reg [0, 1] (fun K hK => ?_)
  simp
  apply hK; clear hK K
  refine L_reg [1, 5] (fun K hK => ?_)
  simp [wrap_i64 (a := (x : Int)) (by omega), q1, wn]
  apply hK; clear hK K
  have hn0 : n ≠ 0 := by omega
  have hn0' : (n : Int) ≠ 0 := by omega
  refine L_reg [5, 6] (fun K hK => ?_)
  simp [wrap_i64 (a := (y : Int)) (by omega), hn0, q2, wk]
  apply hK; clear hK K
  refine L_reg [5, 6, 7] (fun K hK => ?_)
  simp
  apply hK; clear hK K
  have e1 : (n : Int) - 1 = ((n - 1 : Nat) : Int) := by omega
  have e2 : (k : Int) - 1 = ((k - 1 : Nat) : Int) := by omega
  have hrec : sti n k = sti (n - 1) (k - 1) + k * sti (n - 1) k := by
    obtain ⟨n', rfl⟩ : ∃ n', n = n' + 1 := ⟨n - 1, by omega⟩
    obtain ⟨k', rfl⟩ : ∃ k', k = k' + 1 := ⟨k - 1, by omega⟩
    rfl
  have b1 := sti_lt n (by omega) k (by omega)
  have hok51 : okFn Try.prog 51 = true := by kernel_rfl
  refine L_reg [5, 7, 45] (fun K hK => ?_)
  simp [hok51]
  refine intoC_q n k (by omega) (by omega) (by omega) _ _ ?_
  simp [hok51, e1, e2, wrap_i64 (a := ((n - 1 : Nat) : Int)) (by omega), wrap_i64 (a := ((k - 1 : Nat) : Int)) (by omega)]
  refine intoC_q (n - 1) (k - 1) (by omega) (by omega) (by omega) _ _ ?_
  simp [hok51, e1, wrap_i64 (a := ((n - 1 : Nat) : Int)) (by omega)]
  refine intoC_q (n - 1) k (by omega) (by omega) (by omega) _ _ ?_
  have e3 : (k : Int) * (sti (n - 1) k : Int) = ((k * sti (n - 1) k : Nat) : Int) := by simp
  generalize k * sti (n - 1) k = p at hrec e3
  generalize sti (n - 1) k = w at e3 ⊢
  generalize sti (n - 1) (k - 1) = m at hrec ⊢
  generalize sti n k = t at hrec b1 ⊢
  have e4 : (m : Int) + (p : Int) = (t : Int) := by omega
  simp [e3, wrap_i64 (a := (p : Int)) (by omega), e4, wrap_i64 (a := (t : Int)) (by omega)]
  apply hK; clear hK K
  refine L_false rfl ?_
  refine L_reg [5, 7, 8] (fun K hK => ?_)
  simp
  apply hK; clear hK K
  refine L_reg [5, 7, 8, 9] (fun K hK => ?_)
  simp
  apply hK; clear hK K
  refine L_block (L_loopV [8, 9] (fun q vs H' => ∃ i : Nat, q = n - i ∧ i ≤ n ∧ vs = [.int .i64 (sumI n i : Nat), .int .i64 ((i + 1 : Nat) : Int)] ∧ H = H') _ [.int .i64 (0 : Nat), .int .i64 (1 : Nat)] rfl ⟨0, rfl, by omega, by simp [sumI], rfl⟩ ?_)
  rintro q _ _ ⟨i, rfl, hi, rfl, rfl⟩
  refine L_reg [5, 7, 8, 9, 48] (fun K hK => ?_)
  simp
  apply hK; clear hK K
  refine L_dec (i < n) (by simp; omega) (fun hlt => ?_) (fun hge => L_exit ?_)
  · refine L_block ?_
    have b2 := sti_lt n (by omega) (i + 1) (by omega)
    have b3 := sumI_lt n (by omega) i (by omega)
    have hcall := fun Q h => intoC_q n (i + 1) (by omega) (by omega) (by omega) H Q h
    have ei : ((i + 1 : Nat) : Int) = (i : Int) + 1 := by omega
    rw [ei] at hcall
    refine L_reg [5, 7, 8, 9] (fun K hK => ?_)
    simp [hok51]
    refine hcall _ ?_
    simp [wrap_i64 (a := (sumI n i : Int) + (sti n (i + 1) : Int)) (by omega)]
    apply hK; clear hK K
    refine L_reg [5, 7, 8, 9] (fun K hK => ?_)
    simp [wrap_i64 (a := (i : Int) + 1 + 1) (by omega)]
    apply hK; clear hK K
    exact ⟨n - (i + 1), [.int .i64 (sumI n (i + 1) : Nat), .int .i64 ((i + 1 + 1 : Nat) : Int)], by omega, by simp [sumI], i + 1, rfl, by omega, rfl, rfl⟩
  have e : i = n := by omega
  subst e
  rw [sumI_ways i (by omega) (by omega)]
  have hb := bx_nat (m := i) (by omega) (by omega)
  have hcn : cntS (i : Int) = (ways i 0 : Nat) := by unfold cntS; rw [if_pos hb]; simp
  refine L_reg [5, 8, 10, 11] (fun K hK => ?_)
  simp [okFn_low]
  refine Count_q 23 (.inl rfl) (i : Int) _ _ ?_
  rw [hb, hcn]
  simp
  apply hK; clear hK K
  refine L_reg [5, 8, 10, 11, 12] (fun K hK => ?_)
  simp
  apply hK; clear hK K
  have hE : Ext H (H ++ [AObj.row [.int .i64 1] 0 1 false]) := .push _ _
  have ho : OwnF H.length (H ++ [AObj.row [.int .i64 1] 0 1 false]) (.slice (some H.length) 0 1 0 1 false) ((il (catL 0)).map (.int .i64)) := .inr ⟨H.length, 0, 1, Nat.le_refl _, rfl, by simp [il, catL]⟩
  generalize H ++ [AObj.row [.int .i64 1] 0 1 false] = H1 at hE ho ⊢
  refine L_reg [5, 8, 10, 11, 12, 13] (fun K hK => ?_)
  simp
  apply hK; clear hK K
  refine L_block (L_loopV [12, 13] (fun q vs H' => ∃ (m : Nat) (u : AV), q = i - m ∧ m ≤ i ∧ vs = [u, .int .i64 ((m + 1 : Nat) : Int)] ∧ Ext H H' ∧ OwnF H.length H' u ((il (catL m)).map (.int .i64))) _ [.slice (some H.length) 0 1 0 1 false, .int .i64 1] rfl ⟨0, _, rfl, by omega, by simp, hE, ho⟩ ?_)
  clear hE ho H1
  rintro q _ H1 ⟨m, u, rfl, hm, rfl, hE, ho⟩
  refine L_reg [5, 8, 10, 11, 12, 13, 65] (fun K hK => ?_)
  simp
  apply hK; clear hK K
  refine L_dec (m < i) (by simp; omega) (fun hlt => ?_) (fun hge => L_exit ?_)
  · refine L_block ?_
    have hbm := bx_nat (m := m + 1) (by omega) (by omega)
    have hfl : fltS ((m + 1 : Nat) : Int) = (catS (m + 1) : Nat) := by unfold fltS; rw [if_pos hbm]; simp
    have hcall := fun Q h => Flat_q ((m + 1 : Nat) : Int) H1 Q h
    rw [hbm, hfl] at hcall
    have ei : ((m + 1 : Nat) : Int) = (m : Int) + 1 := by omega
    rw [ei] at hcall
    refine L_reg [5, 8, 10, 11, 12, 13, 14, 15] (fun K hK => ?_)
    simp [okFn_low]
    refine hcall _ fun H2 hE2 => ?_
    simp
    apply hK; clear hK K
    have hE3 := hE.trans hE2
    have ho2 := ownF_ext ho hE2
    clear hE ho
    have hu := ownF_ls ho2
    have hcl := catL_len m
    refine L_reg [5, 8, 10, 11, 12, 13, 14, 74] (fun K hK => ?_)
    simp
    apply hK; clear hK K
    refine L_false rfl ?_
    refine L_reg [5, 8, 10, 11, 12, 13, 14, 16] (fun K hK => ?_)
    simp
    apply hK; clear hK K
    refine L_reg [5, 8, 10, 11, 12, 13, 14, 16, 75, 76] (fun K hK => ?_)
    simp
    apply hK; clear hK K
    refine L_block (L_loopV [16, 76] (fun q vs H' => ∃ (j : Nat), q = m + 1 - j ∧ j ≤ m + 1 ∧ vs = [.int .i64 (cvS (catL m) (m + 1) j : Nat), .int .i64 j] ∧ H2 = H') _ [.int .i64 (0 : Nat), .int .i64 (0 : Nat)] rfl ⟨0, rfl, by omega, by simp [cvS], rfl⟩ ?_)
    rintro q _ _ ⟨j, rfl, hj, rfl, rfl⟩
    refine L_reg [5, 8, 10, 11, 12, 13, 14, 16, 75, 76, 77] (fun K hK => ?_)
    simp
    apply hK; clear hK K
    refine L_dec (j < m + 1) (by simp; omega) (fun hjl => ?_) (fun hjg => L_exit ?_)
    · refine L_block ?_
      refine L_reg [5, 8, 10, 11, 12, 13, 14, 16, 17, 75, 76] (fun K hK => ?_)
      simp
      apply hK; clear hK K
      obtain ⟨r1, p1, v1, x1, y1⟩ := il_ix hu (i := j) (by omega)
      obtain ⟨r2, p2, v2, x2, y2⟩ := il_ix hu (i := m - j) (by omega)
      rw [← ga_lt (by omega)] at y1 y2
      have b1 := cat_el m (by omega) j (by omega)
      have b2 := cat_el m (by omega) (m - j) (by omega)
      have b3 := cat_lt m (by omega) j (by omega)
      have b4 := cat_lt m (by omega) (j + 1) (by omega)
      have hcv : cvS (catL m) (m + 1) (j + 1) = cvS (catL m) (m + 1) j + ga (catL m) j * ga (catL m) (m - j) := by
        show cvS (catL m) (m + 1) j + ga (catL m) j * ga (catL m) (m + 1 - 1 - j) = _
        rw [show m + 1 - 1 - j = m - j by omega]
      have e3 : (ga (catL m) j : Int) * (ga (catL m) (m - j) : Int) = ((ga (catL m) j * ga (catL m) (m - j) : Nat) : Int) := by simp
      have hmul : ga (catL m) j * ga (catL m) (m - j) ≤ 100000 * 100000 := Nat.mul_le_mul (by omega) (by omega)
      obtain ⟨z, hz⟩ : ∃ z, ga (catL m) j * ga (catL m) (m - j) = z := ⟨_, rfl⟩
      rw [hz] at hcv e3 hmul
      have e4 : (m : Int) - (j : Int) = ((m - j : Nat) : Int) := by omega
      refine L_regT mixed [5, 8, 10, 11, 12, 13, 14, 16, 75, 76] (by kernel_rfl) (fun K hK => ?_)
      simp [x1, y1, wrap_i64 (a := (m : Int)) (by omega), e4, wrap_i64 (a := ((m - j : Nat) : Int)) (by omega), x2, y2, e3, wrap_i64 (a := (z : Int)) (by omega), wrap_i64 (a := (cvS (catL m) (m + 1) j : Int) + (z : Int)) (by omega)]
      apply hK; clear hK K
      refine L_reg [5, 8, 10, 11, 12, 13, 14, 16, 75, 76] (fun K hK => ?_)
      simp [wrap_i64 (a := (j : Int) + 1) (by omega)]
      apply hK; clear hK K
      exact ⟨m + 1 - (j + 1), [.int .i64 (cvS (catL m) (m + 1) (j + 1) : Nat), .int .i64 (j + 1 : Nat)], by omega, by rw [hcv]; simp, j + 1, rfl, by omega, rfl, rfl⟩
    · have e : j = m + 1 := by omega
      subst e
      rw [← cat_next]
      refine L_reg [5, 8, 10, 11, 12, 13, 14, 96] (fun K hK => ?_)
      simp
      apply hK; clear hK K
      refine L_false (by simp) ?_
      obtain ⟨u', H3, happ, ho3, hE4⟩ := ownF_append (P := Try.prog) (m := 1) (x := .int .i64 (catS (m + 1) : Nat)) hE3 el22 el22 ho2 rfl (by simp [il_len]; omega)
      refine L_reg [5, 8, 10, 11, 12, 13] (fun K hK => ?_)
      simp [happ]
      apply hK; clear hK K
      refine L_reg [5, 8, 10, 11, 12, 13] (fun K hK => ?_)
      simp [wrap_i64 (a := (m : Int) + 1 + 1) (by omega)]
      apply hK; clear hK K
      refine ⟨i - (m + 1), [u', .int .i64 ((m + 1 + 1 : Nat) : Int)], by omega, by simp, m + 1, u', rfl, by omega, rfl, hE4, ?_⟩
      show OwnF _ _ _ ((il (catL m ++ [cvS (catL m) (m + 1) (m + 1)])).map _)
      rw [il_snoc, List.map_append, ← cat_next]
      exact ho3
  · refine L_reg [4] (fun K hK => ?_)
    simp [okFn_low, pickV]
    refine works_ac _ _ ?_
    simp [pickV]
    apply hK; clear hK K
    exact L_ret ⟨.inr rfl, _, rfl, rfl⟩
end Go.Proofs.Ytjaefngmidllgaa.St
