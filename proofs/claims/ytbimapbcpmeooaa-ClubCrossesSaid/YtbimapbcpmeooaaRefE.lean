/- The reference's Make, Count and Only; plans are compared. -/
import Derived.Test.YtbimapbcpmeooaaRefD
namespace Go.Proofs.Ytbimapbcpmeooaa.Cl
open Go Go.Proofs.Ytbimapbcpmeooaa Go.Proofs.Ytbimapbcpmeooaa.AX
set_option maxRecDepth 100000
set_option linter.unusedVariables false
theorem eq67 (a b c d : Int) : eqV Try.prog 4 67 (.agg [.int .i64 a, .int .i64 b]) (.agg [.int .i64 c, .int .i64 d]) = some (a == c && b == d) := by
  have h1 : Try.prog.underlying 67 = some (.array 2 3) := by kernel_rfl
  have h3 : Try.prog.underlying 3 = some (.int .i64) := by kernel_rfl
  obtain ⟨i3, hi, hs⟩ := inf3
  have p0 : ∀ x y : Int, aPart Try.prog 3 [.int .i64 x, .int .i64 y] 0 = some (.int .i64 x) := fun x y => by simp [aPart, h3, hi, isAggD]
  have p1 : ∀ x y : Int, aPart Try.prog 3 [.int .i64 x, .int .i64 y] 1 = some (.int .i64 y) := fun x y => by simp [aPart, h3, hi, isAggD]
  have hr : (List.range 2) = [0, 1] := by decide
  simp only [eqV, h1, hi, hs, hr, List.map_cons, List.map_nil, Nat.mul_one, p0, p1, eqAll, h3]
  cases hac : (a == c) <;> cases hbd : (b == d) <;> simp
theorem eg67 : Try.prog.eqGuardType Try.prog.depth 67 = false := by kernel_rfl
theorem ne67 (l : Bool) (a b c d : Int) : binV Try.prog .neq 67 l (.agg [.int .i64 a, .int .i64 b]) (.agg [.int .i64 c, .int .i64 d]) = some (.bool (!(a == c && b == d))) := by
  simp [binV, aBin, aCmp, aEqA, eq67]
theorem eq67b (l : Bool) (a b c d : Int) : binV Try.prog .eql 67 l (.agg [.int .i64 a, .int .i64 b]) (.agg [.int .i64 c, .int .i64 d]) = some (.bool (a == c && b == d)) := by
  simp [binV, aBin, aCmp, aEqA, eq67]
theorem tables_q (T S : List Tb) (u v : AV) (h1 : T.length ≤ 1000000) (H : AH) (hu : Rs 2 H u (tb T)) (hv : Rs 2 H v (tb S)) (Q : AV → AH → Prop) (h : Q (.bool (decide (T = S))) H) : AC Try.prog 49 [u, v] H Q := by
  have hul := rs_len hu
  have hvl := rs_len hv
  refine L_body 26 Try.func49 rfl rfl ?_
  refine L_reg [0, 1] (fun K hK => ?_)
  simp
  apply hK; clear hK K
  refine L_reg [0, 1, 10] (fun K hK => ?_)
  simp [hul, hvl]
  apply hK; clear hK K
  refine L_dec (T.length ≠ S.length) (by simp [bneN]) (fun c => ?_) (fun c => ?_)
  · refine L_reg [4] (fun K hK => ?_)
    simp
    apply hK; clear hK K
    rw [decide_eq_false (fun e => c (by rw [e]))] at h
    exact L_ret ⟨.inr rfl, _, rfl, h⟩
  have hl : T.length = S.length := Classical.not_not.1 c
  refine L_reg [0, 1, 5] (fun K hK => ?_)
  simp
  apply hK; clear hK K
  refine L_block (L_loopV [5] (fun q vs H' => ∃ (i : Nat), q = T.length - i ∧ i ≤ T.length ∧ vs = [.int .i64 i] ∧ H = H' ∧ T.take i = S.take i) _ [.int .i64 (0 : Nat)] rfl ⟨0, rfl, by omega, rfl, rfl, rfl⟩ ?_)
  rintro q _ _ ⟨i, rfl, hi, rfl, rfl, hc⟩
  refine L_reg [0, 1, 5, 14] (fun K hK => ?_)
  simp [hul]
  apply hK; clear hK K
  refine L_dec (i < T.length) (by simp) (fun hlt => ?_) (fun hge => L_exit ?_)
  · refine L_block ?_
    have hlt' : i < S.length := by omega
    obtain ⟨r1, p1, v1, x1, -, -, y1⟩ := rs_ix hu hlt
    obtain ⟨r2, p2, v2, x2, -, -, y2⟩ := rs_ix hv hlt'
    have hT : T.take (i + 1) = T.take i ++ [T[i]] := by rw [List.take_add_one, List.getElem?_eq_getElem hlt]; rfl
    have hS : S.take (i + 1) = S.take i ++ [S[i]] := by rw [List.take_add_one, List.getElem?_eq_getElem hlt']; rfl
    have hbad : T[i] ≠ S[i] → T ≠ S := fun hn e => hn (by subst e; rfl)
    generalize T[i] = p at y1 hT hbad
    generalize S[i] = q at y2 hS hbad
    refine L_regT mixed [0, 1, 5, 25] (by kernel_rfl) (fun K hK => ?_)
    simp [x1, x2, y1, y2, ne67]
    apply hK; clear hK K
    refine L_dec (p ≠ q) (by
      have e : (!((p.1 : Int) == (q.1 : Int)) || !((p.2 : Int) == (q.2 : Int))) = !decide (p = q) := by
        rw [Bool.eq_iff_iff, Bool.or_eq_true, Bool.not_eq_true', Bool.not_eq_true', Bool.not_eq_true', beq_eq_false_iff_ne, beq_eq_false_iff_ne, decide_eq_false_iff_not, Prod.ext_iff]; omega
      simp [e]) (fun c => ?_) (fun c => ?_)
    · refine L_reg [4] (fun K hK => ?_)
      simp
      apply hK; clear hK K
      rw [decide_eq_false (hbad c)] at h
      exact L_ret ⟨.inr rfl, _, rfl, h⟩
    · have c := Classical.not_not.1 c
      refine L_reg [0, 1, 5] (fun K hK => ?_)
      simp [wrap_i64 (a := (i : Int) + 1) (by omega)]
      apply hK; clear hK K
      exact ⟨T.length - (i + 1), [.int .i64 (i + 1 : Nat)], by omega, by simp, i + 1, rfl, by omega, rfl, rfl, by rw [hT, hS, hc, c]⟩
  · have e : i = T.length := by omega
    subst e
    rw [List.take_length, hl, List.take_length] at hc
    rw [decide_eq_true hc] at h
    refine L_reg [4] (fun K hK => ?_)
    simp
    apply hK; clear hK K
    exact L_ret ⟨.inr rfl, _, rfl, h⟩
theorem rs_one {k : Nat} {H : AH} {v : AV} {l : List (List AV)} (h : Rs k H v l) : v.one = true := by
  obtain ⟨r, off, ver, sz, full, rfl, -⟩ := h
  rfl
theorem alike_ac (n m : Int) (T S : List Tb) (u v : AV) (h1 : T.length ≤ 1000000) (H : AH) (hu : Rs 2 H u (tb T)) (hv : Rs 2 H v (tb S)) (Q : AV → AH → Prop) (h : ∀ H', Ext H H' → Q (.bool (decide (n = m) && decide (T = S))) H') : AC Try.prog 25 [.agg [.int .i64 n, u], .agg [.int .i64 m, v]] H Q := by
  have hu1 := rs_one hu
  have hv1 := rs_one hv
  refine L_body 17 Try.func25 rfl rfl ?_
  refine L_reg [2, 3] (fun K hK => ?_)
  simp [AV.isU, acells]
  apply hK; clear hK K
  have hE : Ext H (H ++ [AObj.row [.int .i64 n, u] 0 0 false, .row [.int .i64 m, v] 0 0 false]) := .push _ _
  have r1 : (H ++ [AObj.row [.int .i64 n, u] 0 0 false, .row [.int .i64 m, v] 0 0 false])[H.length]? = some (.row [.int .i64 n, u] 0 0 false) := by simp
  have r2 : (H ++ [AObj.row [.int .i64 n, u] 0 0 false, .row [.int .i64 m, v] 0 0 false])[H.length + 1]? = some (.row [.int .i64 m, v] 0 0 false) := by simp
  generalize H ++ [AObj.row [.int .i64 n, u] 0 0 false, .row [.int .i64 m, v] 0 0 false] = H1 at *
  have e1 : ld H1 H.length 0 0 = some (.int .i64 n) := by rw [ld_row r1]; rfl
  have e2 : ld H1 (H.length + 1) 0 0 = some (.int .i64 m) := by rw [ld_row r2]; rfl
  have e3 : ld H1 H.length 1 0 = some u := by rw [ld_row r1]; exact known_one hu1
  have e4 : ld H1 (H.length + 1) 1 0 = some v := by rw [ld_row r2]; exact known_one hv1
  by_cases c : n = m
  · subst c
    refine L_reg [4] (fun K hK => ?_)
    simp [okFn_low, e1, e2, e3, e4]
    refine tables_q T S u v h1 _ (hu.ext hE) (hv.ext hE) _ ?_
    simp [pickV]
    apply hK; clear hK K
    exact L_ret ⟨.inr rfl, _, rfl, by simpa using h _ hE⟩
  · have c' : (n == m) = false := by simpa using c
    refine L_reg [4] (fun K hK => ?_)
    simp [e1, e2, c', pickV]
    apply hK; clear hK K
    exact L_ret ⟨.inr rfl, _, rfl, by have h := h _ hE; rw [decide_eq_false c] at h; simpa using h⟩
theorem Count_r (l : List Int) (v : AV) (hlen : l.length ≤ 1000000) (H : AH) (hv : Ls H v l) (Q : AV → AH → Prop) (h1 : chkC l ≠ 0 → Q (.tuple [.int .i64 0, .int .i64 (chkC l)]) H) (h2 : ∀ c, l = il c → Okc c → ∀ H', Ext H H' → Q (.tuple [.int .i64 (cnt c.length c : Nat), .int .i64 0]) H') : AC Try.prog 27 [v] H Q := by
  refine L_body 12 Try.func27 rfl rfl ?_
  refine L_reg [0] (fun K hK => ?_)
  simp
  apply hK; clear hK K
  refine L_reg [0, 4] (fun K hK => ?_)
  simp [okFn_low]
  refine CheckR_q l v hlen _ hv _ ?_
  simp
  apply hK; clear hK K
  refine L_reg [0, 4, 8] (fun K hK => ?_)
  simp
  apply hK; clear hK K
  refine L_dec (chkC l ≠ 0) (by simp [bne0]) (fun c1 => ?_) (fun c1 => ?_)
  · refine L_reg [2, 3] (fun K hK => ?_)
    simp
    apply hK; clear hK K
    exact L_ret ⟨.inr rfl, _, rfl, h1 c1⟩
  obtain ⟨c, rfl, ho⟩ := chk_okc (Classical.not_not.1 c1)
  refine L_reg [2, 3] (fun K hK => ?_)
  simp [okFn_low]
  refine count_ac c.length c v rfl ho.le ho.b _ hv _ (fun H' hE => ?_)
  simp
  apply hK; clear hK K
  exact L_ret ⟨.inr rfl, _, rfl, h2 c rfl ho _ hE⟩
theorem Only_r (l : List Int) (v : AV) (hlen : l.length ≤ 1000000) (H : AH) (hv : Ls H v l) (Q : AV → AH → Prop) (h1 : chkC l ≠ 0 → Q (.tuple [.bool false, .int .i64 (chkC l)]) H) (h2 : ∀ c, l = il c → Okc c → ∀ H', Ext H H' → Q (onlyA c) H') : AC Try.prog 29 [v] H Q := by
  refine L_body 20 Try.func29 rfl rfl ?_
  refine L_reg [0] (fun K hK => ?_)
  simp
  apply hK; clear hK K
  refine L_reg [0, 4] (fun K hK => ?_)
  simp [okFn_low]
  refine CheckR_q l v hlen _ hv _ ?_
  simp
  apply hK; clear hK K
  by_cases c1 : chkC l = 0
  · obtain ⟨c, rfl, ho⟩ := chk_okc c1
    have h2 := h2 c rfl ho
    rw [c1]
    have hcr : canB c = true ↔ cnt c.length c ≠ 0 := by
      rw [← sols_can (a := 0) rfl ho.le, ← sols_len c.length 0 c]
      exact not_congr List.length_eq_zero_iff.symm
    unfold onlyA at h2
    refine L_reg [0, 4, 13] (fun K hK => ?_)
    simp [okFn_low]
    refine can_q c v ho.b ho.le _ hv _ ?_
    simp [pickV]
    apply hK; clear hK K
    by_cases e : canB c = true
    · refine L_false (by simpa using e) ?_
      rw [if_neg (hcr.1 e)] at h2
      refine L_reg [0, 4, 15] (fun K hK => ?_)
      simp
      apply hK; clear hK K
      refine L_false (by simp) ?_
      refine L_reg [2, 3] (fun K hK => ?_)
      simp [okFn_low]
      refine count_ac c.length c v rfl ho.le ho.b _ hv _ (fun H' hE => ?_)
      simp
      apply hK; clear hK K
      have e2 : (((cnt c.length c : Nat) : Int) == 1) = decide (cnt c.length c = 1) := by rw [Bool.eq_iff_iff, beq_iff_eq, decide_eq_true_eq]; omega
      exact L_ret ⟨.inr rfl, _, rfl, by simpa [e2] using h2 _ hE⟩
    · refine L_true (by simpa using e) ?_
      rw [if_pos (Classical.not_not.1 fun hn => e (hcr.2 hn))] at h2
      refine L_reg [0, 4] (fun K hK => ?_)
      simp
      apply hK; clear hK K
      refine L_reg [0, 4, 15] (fun K hK => ?_)
      simp
      apply hK; clear hK K
      refine L_true (by simp) ?_
      refine L_reg [2, 3] (fun K hK => ?_)
      simp
      apply hK; clear hK K
      exact L_ret ⟨.inr rfl, _, rfl, h2 _ (.refl _)⟩
  · have c2 : (chkC l == 0) = false := by simpa using c1
    refine L_reg [0, 4, 13] (fun K hK => ?_)
    simp [c2, pickV]
    apply hK; clear hK K
    refine L_false (by simp) ?_
    refine L_reg [0, 4, 15] (fun K hK => ?_)
    simp
    apply hK; clear hK K
    refine L_true (by simpa using c1) ?_
    refine L_reg [2, 3] (fun K hK => ?_)
    simp
    apply hK; clear hK K
    exact L_ret ⟨.inr rfl, _, rfl, h1 c1⟩
end Go.Proofs.Ytbimapbcpmeooaa.Cl
