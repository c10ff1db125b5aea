/- How many pairs of arcs cross or nest: both ways. -/
import Derived.Test.YtjaefngmidllgaaArcP
namespace Go.Proofs.Ytjaefngmidllgaa.St
open Go Go.Proofs.Ytjaefngmidllgaa Go.Proofs.Ytjaefngmidllgaa.AX
set_option maxRecDepth 100000
set_option linter.unusedVariables false
theorem rs_len70 {H : AH} {v : AV} {l : List (List AV)} (h : Rs 2 H v l) : aLen Try.prog 70 v = some (.int .i64 (l.length : Nat)) := by
  obtain ⟨r, off, ver, sz, full, rfl, -⟩ := h
  exact len70 ..
theorem rs_len74 {H : AH} {v : AV} {l : List (List AV)} (h : Rs 2 H v l) : aLen Try.prog 74 v = some (.int .i64 (l.length : Nat)) := by
  obtain ⟨r, off, ver, sz, full, rfl, -⟩ := h
  exact len74 ..
theorem rs_ix70 {H : AH} {v : AV} {l : List (List AV)} (h : Rs 2 H v l) {i : Nat} (hi : i < l.length) : ∃ r p ver, (∀ k, aIndexAddr Try.prog 70 v (.int k (i : Int)) = some (.ptr r p ver)) ∧ ldn H r ver 2 p = some l[i] := by
  obtain ⟨r, off, ver, sz, full, rfl, hl⟩ := h
  obtain ⟨r', rfl, rfl, hx⟩ := hl i hi
  exact ⟨r', off + i * 2, ver, fun k => by simp [hi], hx⟩
theorem rs_ix74 {H : AH} {v : AV} {l : List (List AV)} (h : Rs 2 H v l) {i : Nat} (hi : i < l.length) : ∃ r p ver, (∀ k, aIndexAddr Try.prog 74 v (.int k (i : Int)) = some (.ptr r p ver)) ∧ ldn H r ver 2 p = some l[i] := by
  obtain ⟨r, off, ver, sz, full, rfl, hl⟩ := h
  obtain ⟨r', rfl, rfl, hx⟩ := hl i hi
  exact ⟨r', off + i * 2, ver, fun k => by simp [hi], hx⟩
theorem rs_lo {H : AH} {v : AV} {l : List (List AV)} (h : Rs 2 H v l) (h0 : 0 < l.length) {m : Nat} (hm : m ≤ l.length) : ∃ u, aSlice Try.prog 70 v (some (.int .i64 (m : Int))) none none = some u ∧ Rs 2 H u (l.drop m) := by
  obtain ⟨r, off, ver, sz, full, rfl, hl⟩ := h
  obtain ⟨r', rfl, rfl, -⟩ := hl 0 h0
  have hb : aBounds l.length (some (.int .i64 (m : Int))) none none = some (m, l.length, l.length) := by
    simp [aBounds, aBound, hm]
  refine ⟨.slice (some r') (off + m * 2) (l.length - m) ver 2 full, ?_, ?_⟩
  · rw [slice_sl slz70]
    simp [hb]
  · refine ⟨some r', off + m * 2, ver, 2, full, by simp, fun i hi => ⟨r', rfl, rfl, ?_⟩⟩
    simp only [List.length_drop] at hi
    obtain ⟨r2, e1, -, e3⟩ := hl (m + i) (by omega)
    cases e1
    rw [List.getElem_drop, ← e3]
    congr 1; omega
theorem ldn_two {H : AH} {r ver p : Nat} {a b : AV} (h : ldn H r ver 2 p = some [a, b]) : ld H r p ver = some a ∧ ld H r (p + 1) ver = some b := by
  rw [show (2 : Nat) = 1 + 1 from rfl, ldn_succ] at h
  obtain ⟨x, h1, h2⟩ := Option.bind_eq_some_iff.1 h
  obtain ⟨l, h3, h4⟩ := Option.map_eq_some_iff.1 h2
  rw [show (1 : Nat) = 0 + 1 from rfl, ldn_succ] at h3
  obtain ⟨y, h5, h6⟩ := Option.bind_eq_some_iff.1 h3
  obtain ⟨m, -, rfl⟩ := Option.map_eq_some_iff.1 h6
  simp only [List.cons.injEq] at h4
  obtain ⟨rfl, rfl, -⟩ := h4
  exact ⟨h1, h5⟩
theorem tri_le (P : Nat × Nat → Nat × Nat → Bool) : ∀ A : List (Nat × Nat), triP P A ≤ A.length * A.length
  | [] => by simp [triP]
  | a :: r => by
    have h1 := tri_le P r
    have h2 := List.countP_le_length (p := P a) (l := r)
    simp only [triP, List.length_cons]
    have : (r.length + 1) * (r.length + 1) = r.length * r.length + 2 * r.length + 1 := by
      rw [Nat.mul_add, Nat.add_mul]; omega
    omega
theorem st_arc {H : AH} {x y : Int} : storeV Try.prog 82 (H ++ [AObj.row [.int .i64 0, .int .i64 0] 0 0 false]) (.ptr H.length 0 0) (.agg [.int .i64 x, .int .i64 y]) = some (none, H ++ [AObj.row [.int .i64 x, .int .i64 y] 0 0 false]) := by
  rw [store_agg ag82 (c := [.int .i64 0, .int .i64 0]) (s := 0) (by simp) (by decide) rfl (by simp) rfl (by simp [AV.one])]
  simp
theorem acs_drop (A : List (Nat × Nat)) (m : Nat) : (acs A).drop m = acs (A.drop m) := by simp [acs]
set_option maxHeartbeats 1000000 in
theorem met_ac (A : List (Nat × Nat)) (h9 : A.length ≤ 9) (v : AV) (H : AH) (hv : Rs 2 H v (acs A)) (Q : AV → AH → Prop) (h : ∀ H', Ext H H' → Q (.tuple [.int .i64 (triP crM A : Nat), .int .i64 (triP neM A : Nat)]) H') : AC Try.prog 75 [v] H Q := by
  have hvl := rs_len70 hv
  rw [acs_len] at hvl
  have hb1 := tri_le crM A
  have hb2 := tri_le neM A
  have hb3 : A.length * A.length ≤ 81 := Nat.mul_le_mul h9 h9
  refine L_body 42 Try.func75 rfl rfl ?_
  obtain ⟨I, hI, hz⟩ := zeroT_some zt82
  refine L_reg [0, 2, 3] (fun K hK => ?_)
  simp
  apply hK; clear hK K
  refine L_reg [0, 2, 3, 8, 9, 10] (fun K hK => ?_)
  simp [hvl]
  apply hK; clear hK K
  refine L_block (L_loopV [2, 3, 10] (fun q vs H' => ∃ (i c n : Nat), q = A.length - i ∧ i ≤ A.length ∧ vs = [.int .i64 c, .int .i64 n, .int .i64 i] ∧ Ext H H' ∧ triP crM A = c + triP crM (A.drop i) ∧ triP neM A = n + triP neM (A.drop i)) _ [.int .i64 (0 : Nat), .int .i64 (0 : Nat), .int .i64 (0 : Nat)] rfl ⟨0, 0, 0, rfl, by omega, rfl, .refl _, by simp, by simp⟩ ?_)
  rintro q _ H1 ⟨i, c, n, rfl, hi, rfl, hE, hc, hn⟩
  refine L_reg [0, 2, 3, 8, 9, 10, 11] (fun K hK => ?_)
  simp
  apply hK; clear hK K
  refine L_dec (i < A.length) (by simp) (fun hlt => ?_) (fun hge => L_exit ?_)
  · refine L_block ?_
    have hv1 := hv.ext hE
    obtain ⟨r1, p1, v1, x1, y1⟩ := rs_ix70 hv1 (i := i) (by rw [acs_len]; exact hlt)
    rw [acs_get hlt] at y1
    rw [List.drop_eq_getElem_cons hlt] at hc hn
    simp only [triP] at hc hn
    obtain ⟨a, ha⟩ : ∃ a, A[i] = a := ⟨_, rfl⟩
    obtain ⟨T, hT⟩ : ∃ T, A.drop (i + 1) = T := ⟨_, rfl⟩
    rw [ha] at y1 hc hn
    have hTl : T.length = A.length - (i + 1) := by rw [← hT]; simp
    rw [hT] at hc hn
    refine L_reg [0, 2, 3, 4, 5, 8, 9, 10] (fun K hK => ?_)
    simp [x1, y1, hI, hz, st_arc]
    apply hK; clear hK K
    have hE2 : Ext H1 (H1 ++ [AObj.row [.int .i64 (a.1 : Int), .int .i64 (a.2 : Int)] 0 0 false]) := .push _ _
    have ra : (H1 ++ [AObj.row [AV.int .i64 (a.1 : Int), .int .i64 (a.2 : Int)] 0 0 false])[H1.length]? = some (.row [.int .i64 (a.1 : Int), .int .i64 (a.2 : Int)] 0 0 false) := by simp
    have hE3 := hE.trans hE2
    generalize H1.length = pa at ra ⊢
    generalize H1 ++ [AObj.row [.int .i64 (a.1 : Int), .int .i64 (a.2 : Int)] 0 0 false] = H2 at ra hE3 ⊢
    obtain ⟨u, hu1, hu2⟩ := rs_lo (hv.ext hE3) (by rw [acs_len]; omega) (m := i + 1) (by rw [acs_len]; omega)
    rw [acs_drop, hT] at hu2
    have hul := rs_len70 hu2
    rw [acs_len] at hul
    have hu1' : aSlice Try.prog 70 v (some (.int .i64 ((i : Int) + 1))) none none = some u := by rw [← hu1]; simp
    refine L_reg [0, 2, 3, 5, 8, 9, 10, 18, 19, 20] (fun K hK => ?_)
    simp [wrap_i64 (a := (i : Int) + 1) (by omega), hu1', hul]
    apply hK; clear hK K
    have hcl1 := List.countP_le_length (p := crM a) (l := T)
    have hcl2 := List.countP_le_length (p := neM a) (l := T)
    refine L_block (L_loopV [2, 3, 20] (fun q vs H' => ∃ (j c' n' : Nat), q = T.length - j ∧ j ≤ T.length ∧ vs = [.int .i64 c', .int .i64 n', .int .i64 j] ∧ Ext H2 H' ∧ c + T.countP (crM a) = c' + (T.drop j).countP (crM a) ∧ n + T.countP (neM a) = n' + (T.drop j).countP (neM a)) _ [.int .i64 (c : Nat), .int .i64 (n : Nat), .int .i64 (0 : Nat)] rfl ⟨0, c, n, rfl, by omega, rfl, .refl _, by simp, by simp⟩ ?_)
    rintro q _ H3 ⟨j, c', n', rfl, hj, rfl, hE4, hc', hn'⟩
    refine L_reg [0, 2, 3, 5, 8, 9, 10, 18, 19, 20, 21] (fun K hK => ?_)
    simp
    apply hK; clear hK K
    refine L_dec (j < T.length) (by simp) (fun hjl => ?_) (fun hjg => L_exit ?_)
    · refine L_block ?_
      obtain ⟨r2, p2, v2, x2, y2⟩ := rs_ix70 (hu2.ext hE4) (i := j) (by rw [acs_len]; exact hjl)
      rw [acs_get hjl] at y2
      rw [List.drop_eq_getElem_cons hjl, List.countP_cons] at hc' hn'
      generalize T[j] = b at y2 hc' hn'
      refine L_reg [0, 2, 3, 5, 7, 8, 9, 10, 18, 19, 20] (fun K hK => ?_)
      simp [x2, y2, hI, hz, st_arc]
      apply hK; clear hK K
      have hE5 : Ext H3 (H3 ++ [AObj.row [.int .i64 (b.1 : Int), .int .i64 (b.2 : Int)] 0 0 false]) := .push _ _
      have rb : (H3 ++ [AObj.row [AV.int .i64 (b.1 : Int), .int .i64 (b.2 : Int)] 0 0 false])[H3.length]? = some (.row [.int .i64 (b.1 : Int), .int .i64 (b.2 : Int)] 0 0 false) := by simp
      have ra3 := hE5.row (hE4.row ra)
      have hE6 := hE4.trans hE5
      generalize H3.length = pb at rb ⊢
      generalize H3 ++ [AObj.row [.int .i64 (b.1 : Int), .int .i64 (b.2 : Int)] 0 0 false] = H4 at rb ra3 hE6 ⊢
      have la : ld H4 pa 1 0 = some (.int .i64 (a.2 : Int)) := by rw [ld_row ra3]; rfl
      have lb1 : ld H4 pb 0 0 = some (.int .i64 (b.1 : Int)) := by rw [ld_row rb]; rfl
      have lb2 : ld H4 pb 1 0 = some (.int .i64 (b.2 : Int)) := by rw [ld_row rb]; rfl
      refine L_reg [0, 2, 3, 5, 7, 8, 9, 10, 18, 19, 20, 28] (fun K hK => ?_)
      simp [la, lb2]
      apply hK; clear hK K
      by_cases e1 : b.2 < a.2
      · have f1 : crM a b = false := by unfold crM; rw [decide_eq_true e1]; rfl
        have f2 : neM a b = true := by unfold neM; rw [decide_eq_true e1]
        rw [f1] at hc'
        rw [f2] at hn'
        simp only [Bool.false_eq_true, if_false, if_true] at hc' hn'
        refine L_true (by simpa using e1) ?_
        refine L_reg [0, 2, 3, 5, 8, 9, 10, 18, 19, 20] (fun K hK => ?_)
        simp [wrap_i64 (a := (n' : Int) + 1) (by omega)]
        apply hK; clear hK K
        refine L_reg [0, 2, 3, 5, 8, 9, 10, 18, 19, 20] (fun K hK => ?_)
        simp [wrap_i64 (a := (j : Int) + 1) (by omega)]
        apply hK; clear hK K
        exact ⟨T.length - (j + 1), [.int .i64 (c' : Nat), .int .i64 (n' + 1 : Nat), .int .i64 (j + 1 : Nat)], by omega, by simp, j + 1, c', n' + 1, rfl, by omega, rfl, hE6, by omega, by omega⟩
      · have f2 : neM a b = false := by unfold neM; rw [decide_eq_false e1]
        rw [f2] at hn'
        simp only [Bool.false_eq_true, if_false] at hn'
        refine L_false (by simpa using e1) ?_
        refine L_reg [0, 2, 3, 5, 8, 9, 10, 18, 19, 20, 35] (fun K hK => ?_)
        simp [la, lb1]
        apply hK; clear hK K
        by_cases e2 : b.1 < a.2
        · have f1 : crM a b = true := by unfold crM; rw [decide_eq_false e1, decide_eq_true e2]; rfl
          rw [f1] at hc'
          simp only [if_true] at hc'
          refine L_true (by simpa using e2) ?_
          refine L_reg [0, 2, 3, 5, 8, 9, 10, 18, 19, 20] (fun K hK => ?_)
          simp [wrap_i64 (a := (c' : Int) + 1) (by omega)]
          apply hK; clear hK K
          refine L_reg [0, 2, 3, 5, 8, 9, 10, 18, 19, 20] (fun K hK => ?_)
          simp [wrap_i64 (a := (j : Int) + 1) (by omega)]
          apply hK; clear hK K
          exact ⟨T.length - (j + 1), [.int .i64 (c' + 1 : Nat), .int .i64 (n' : Nat), .int .i64 (j + 1 : Nat)], by omega, by simp, j + 1, c' + 1, n', rfl, by omega, rfl, hE6, by omega, by omega⟩
        · have f1 : crM a b = false := by unfold crM; rw [decide_eq_false e2, Bool.and_false]
          rw [f1] at hc'
          simp only [Bool.false_eq_true, if_false] at hc'
          refine L_false (by simpa using e2) ?_
          refine L_reg [0, 2, 3, 5, 8, 9, 10, 18, 19, 20] (fun K hK => ?_)
          simp [wrap_i64 (a := (j : Int) + 1) (by omega)]
          apply hK; clear hK K
          exact ⟨T.length - (j + 1), [.int .i64 (c' : Nat), .int .i64 (n' : Nat), .int .i64 (j + 1 : Nat)], by omega, by simp, j + 1, c', n', rfl, by omega, rfl, hE6, by omega, by omega⟩
    · have e : j = T.length := by omega
      subst e
      rw [List.drop_length] at hc' hn'
      simp only [List.countP_nil, Nat.add_zero] at hc' hn'
      refine L_reg [0, 2, 3, 8, 9, 10] (fun K hK => ?_)
      simp [wrap_i64 (a := (i : Int) + 1) (by omega)]
      apply hK; clear hK K
      exact ⟨A.length - (i + 1), [.int .i64 (c' : Nat), .int .i64 (n' : Nat), .int .i64 (i + 1 : Nat)], by omega, by simp, i + 1, c', n', rfl, by omega, rfl, hE3.trans hE4, by rw [hT]; omega, by rw [hT]; omega⟩
  · have e : i = A.length := by omega
    subst e
    rw [List.drop_length] at hc hn
    simp only [triP, Nat.add_zero] at hc hn
    rw [← hc, ← hn]
    refine L_reg [2, 3] (fun K hK => ?_)
    simp
    apply hK; clear hK K
    exact L_ret ⟨.inr rfl, _, rfl, h _ hE⟩
end Go.Proofs.Ytjaefngmidllgaa.St
