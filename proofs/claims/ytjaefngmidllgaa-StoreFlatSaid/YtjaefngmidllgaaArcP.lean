/- Arcs, and how many pairs of them cross or nest: both ways. -/
import Derived.Test.YtjaefngmidllgaaStA
import Derived.Test.YtjaefngmidllgaaChk
namespace Go.Proofs.Ytjaefngmidllgaa.St
open Go Go.Proofs.Ytjaefngmidllgaa Go.Proofs.Ytjaefngmidllgaa.AX
set_option maxRecDepth 100000
set_option linter.unusedVariables false
/-- Arcs as cells. -/
def acs (A : List (Nat × Nat)) : List (List AV) := A.map fun a => [.int .i64 (a.1 : Nat), .int .i64 (a.2 : Nat)]
theorem acs_len (A : List (Nat × Nat)) : (acs A).length = A.length := by simp [acs]
theorem acs_get {A : List (Nat × Nat)} {i : Nat} (h : i < A.length) : (acs A)[i]'(by rw [acs_len]; exact h) = [.int .i64 (A[i].1 : Nat), .int .i64 (A[i].2 : Nat)] := by simp [acs]
theorem ek70 : elK Try.prog 70 2 = true := by kernel_rfl
theorem ek74' : elK Try.prog 74 2 = true := by kernel_rfl
theorem bd82 (a b : Int) : aBuilt Try.prog 82 [(0, .int .i64 a), (1, .int .i64 b)] = some [.int .i64 a, .int .i64 b] := by kernel_rfl
theorem bd56' (a b : Int) : aBuilt Try.prog 56 [(0, .int .i64 a), (1, .int .i64 b)] = some [.int .i64 a, .int .i64 b] := by kernel_rfl
theorem row70 (H : AH) (a b : Int) : rowV Try.prog 70 1 [(0, .agg [.int .i64 a, .int .i64 b])] H = some (some (.slice (some H.length) 0 1 0 2 false), H ++ [.row [.int .i64 a, .int .i64 b] 0 2 false]) := by kernel_rfl
theorem row74 (H : AH) (a b : Int) : rowV Try.prog 74 1 [(0, .agg [.int .i64 a, .int .i64 b])] H = some (some (.slice (some H.length) 0 1 0 2 false), H ++ [.row [.int .i64 a, .int .i64 b] 0 2 false]) := by kernel_rfl
theorem ls_lo {H : AH} {v : AV} {l : List Int} (h : Ls H v l) (h0 : 0 < l.length) {m : Nat} (hm : m ≤ l.length) : ∃ u, aSlice Try.prog 22 v (some (.int .i64 (m : Int))) none none = some u ∧ Ls H u (l.drop m) := by
  obtain ⟨r, off, ver, sz, full, rfl, hsz, hsub⟩ := h.sub
  obtain rfl := hsz (by intro e; rw [e] at h0; simp at h0)
  have h2 := hsub m l.length full hm (Nat.le_refl _)
  rw [show (l.drop m).take (l.length - m) = l.drop m from List.take_of_length_le (by simp)] at h2
  refine ⟨.slice r (off + m) (l.length - m) ver 1 full, ?_, h2⟩
  rw [slice_sl slz22]
  have hb : aBounds l.length (some (.int .i64 (m : Int))) none none = some (m, l.length, l.length) := by
    simp [aBounds, aBound, hm]
  simp [hb]
theorem idx_il : ∀ (l : List Nat) (x : Nat), (il l).idxOf (x : Int) = l.idxOf x
  | [], _ => rfl
  | y :: l, x => by
    show ((y : Int) :: il l).idxOf (x : Int) = _
    rw [List.idxOf_cons, List.idxOf_cons, idx_il l x]
    have : ((y : Int) == (x : Int)) = (y == x) := by rw [Bool.eq_iff_iff, beq_iff_eq, beq_iff_eq]; omega
    rw [this]
theorem ixI_il (l : List Nat) (x : Nat) : ixI (il l) (x : Int) = if l.contains x then (l.idxOf x : Int) else -1 := by
  unfold ixI
  rw [idx_il]
  have : ((x : Int) ∈ il l) ↔ l.contains x = true := by
    simp [il]
    exact ⟨fun ⟨a, h1, h2⟩ => by obtain rfl : a = x := by omega
                                 exact h1, fun h => ⟨x, h, rfl⟩⟩
  simp only [this]
theorem arcs_ac {d : List Nat} (h0 : 0 < d.length) (h9 : d.length ≤ 9) (v : AV) (H : AH) (hv : Ls H v (il d)) (Q : AV → AH → Prop) (h : ∀ v' H', OwnK 2 H.length H' v' (acs (arcsL 0 d)) → Ext H H' → Q v' H') : AC Try.prog 76 [v] H Q := by
  have hvl := ils_len hv
  refine L_body 33 Try.func76 rfl rfl ?_
  refine L_reg [0] (fun K hK => ?_)
  simp
  apply hK; clear hK K
  refine L_reg [0, 3] (fun K hK => ?_)
  simp
  apply hK; clear hK K
  refine L_reg [0, 3, 7, 8, 9] (fun K hK => ?_)
  simp [hvl]
  apply hK; clear hK K
  refine L_block (L_loopV [3, 9] (fun q vs H' => ∃ (i : Nat) (u : AV) (A : List (Nat × Nat)), q = d.length - i ∧ i ≤ d.length ∧ A.length ≤ i ∧ vs = [u, .int .i64 i] ∧ Ext H H' ∧ OwnK 2 H.length H' u (acs A) ∧ arcsL 0 d = A ++ arcsL i (d.drop i)) _ [.slice none 0 0 0 1 false, .int .i64 (0 : Nat)] rfl ⟨0, _, [], rfl, by omega, by simp, rfl, .refl _, OwnK.nil _ _ _, rfl⟩ ?_)
  rintro q _ H1 ⟨i, u, A, rfl, hi, hA, rfl, hE, ho, hc⟩
  have hv1 := hv.ext hE
  refine L_reg [0, 3, 7, 8, 9, 10] (fun K hK => ?_)
  simp
  apply hK; clear hK K
  refine L_dec (i < d.length) (by simp) (fun hlt => ?_) (fun hge => L_exit ?_)
  · refine L_block ?_
    obtain ⟨r1, p1, v1, x1, y1⟩ := il_ix hv1 hlt
    obtain ⟨w, hw1, hw2⟩ := ls_lo hv1 (by rw [il_len]; exact h0) (m := i + 1) (by rw [il_len]; omega)
    rw [← il_drop] at hw2
    rw [List.drop_eq_getElem_cons hlt] at hc
    have hdl : (d.drop (i + 1)).length = d.length - (i + 1) := by simp
    obtain ⟨rest, hrest⟩ : ∃ rest, d.drop (i + 1) = rest := ⟨_, rfl⟩
    rw [hrest] at hw2 hc hdl
    simp only [arcsL] at hc
    generalize d[i] = x at y1 hc
    have hwi : aSlice Try.prog 22 v (some (.int .i64 ((i : Int) + 1))) none none = some w := by rw [← hw1]; simp
    refine L_reg [0, 3, 4, 5, 7, 8, 9] (fun K hK => ?_)
    simp [x1, y1]
    apply hK; clear hK K
    refine L_reg [0, 3, 4, 6, 7, 8, 9] (fun K hK => ?_)
    simp [okFn_low, wrap_i64 (a := (i : Int) + 1) (by omega), hwi]
    refine Index_q (il rest) (x : Int) w (by rw [il_len]; omega) _ hw2 _ ?_
    have hz := ixI_il rest x
    generalize ixI (il rest) (x : Int) = z at hz
    simp
    apply hK; clear hK K
    by_cases c : x ∈ rest
    · have hlt2 := List.idxOf_lt_length_of_mem c
      have c' : rest.contains x = true := by simpa using c
      rw [if_pos c'] at hz
      subst hz
      rw [if_pos c'] at hc
      refine L_reg [0, 3, 4, 6, 7, 8, 9, 21] (fun K hK => ?_)
      simp
      apply hK; clear hK K
      refine L_true (by simp) ?_
      obtain ⟨u', H3, happ, ho3, hE3⟩ := ownK_append hE ek70 ek70 (x := [.int .i64 (i : Int), .int .i64 ((i : Int) + 1 + (rest.idxOf x : Int))]) (m := 2) ho rfl (by simp [AV.one]) (by rw [acs_len]; omega)
      refine L_reg [0, 3, 7, 8, 9] (fun K hK => ?_)
      simp [wrap_i64 (a := (i : Int) + 1) (by omega), wrap_i64 (a := (i : Int) + 1 + (rest.idxOf x : Int)) (by omega), row70, happ]
      apply hK; clear hK K
      refine L_reg [0, 3, 7, 8, 9] (fun K hK => ?_)
      simp [wrap_i64 (a := (i : Int) + 1) (by omega)]
      apply hK; clear hK K
      refine ⟨d.length - (i + 1), [u', .int .i64 (i + 1 : Nat)], by omega, by simp, i + 1, u', A ++ [(i, i + 1 + rest.idxOf x)], rfl, by omega, by simp; omega, rfl, hE3, ?_, ?_⟩
      · have : acs (A ++ [(i, i + 1 + rest.idxOf x)]) = acs A ++ [[.int .i64 (i : Int), .int .i64 ((i : Int) + 1 + (rest.idxOf x : Int))]] := by simp [acs]
        rw [this]; exact ho3
      · rw [hc, hrest]; simp
    · have c' : ¬ rest.contains x = true := by simpa using c
      rw [if_neg c'] at hz
      subst hz
      rw [if_neg c'] at hc
      refine L_reg [0, 3, 4, 6, 7, 8, 9, 21] (fun K hK => ?_)
      simp
      apply hK; clear hK K
      refine L_false (by simp) ?_
      refine L_reg [0, 3, 7, 8, 9] (fun K hK => ?_)
      simp [wrap_i64 (a := (i : Int) + 1) (by omega)]
      apply hK; clear hK K
      exact ⟨d.length - (i + 1), [u, .int .i64 (i + 1 : Nat)], by omega, by simp, i + 1, u, A, rfl, by omega, by omega, rfl, hE, ho, by rw [hc, hrest]; simp⟩
  · have e : i = d.length := by omega
    subst e
    rw [List.drop_length] at hc
    simp only [arcsL, List.append_nil] at hc
    rw [← hc] at ho
    refine L_reg [2] (fun K hK => ?_)
    simp
    apply hK; clear hK K
    exact L_ret ⟨.inr rfl, _, rfl, h _ _ ho hE⟩
theorem arcsR_ac {d : List Nat} (h9 : d.length ≤ 9) (v : AV) (H : AH) (hv : Ls H v (il d)) (Q : AV → AH → Prop) (h : ∀ v' H', OwnK 2 H.length H' v' (acs (arcsL 0 d)) → Ext H H' → Q v' H') : AC Try.prog 90 [v] H Q := by
  refine L_body 36 Try.func90 rfl rfl ?_
  refine L_reg [0] (fun K hK => ?_)
  simp
  apply hK; clear hK K
  refine L_reg [0, 3] (fun K hK => ?_)
  simp
  apply hK; clear hK K
  refine L_reg [0, 3, 4] (fun K hK => ?_)
  simp
  apply hK; clear hK K
  refine L_block (L_loopV [3, 4] (fun q vs H' => ∃ (i : Nat) (u : AV) (A : List (Nat × Nat)), q = d.length - i ∧ i ≤ d.length ∧ A.length ≤ i ∧ vs = [u, .int .i64 i] ∧ Ext H H' ∧ OwnK 2 H.length H' u (acs A) ∧ arcsL 0 d = A ++ arcsL i (d.drop i)) _ [.slice none 0 0 0 1 false, .int .i64 (0 : Nat)] rfl ⟨0, _, [], rfl, by omega, by simp, rfl, .refl _, OwnK.nil _ _ _, rfl⟩ ?_)
  rintro q _ H1 ⟨i, u, A, rfl, hi, hA, rfl, hE, ho, hc⟩
  have hv1 := hv.ext hE
  have hvl := ils_len hv1
  refine L_reg [0, 3, 4, 9] (fun K hK => ?_)
  simp [hvl]
  apply hK; clear hK K
  refine L_dec (i < d.length) (by simp) (fun hlt => ?_) (fun hge => L_exit ?_)
  · refine L_block ?_
    obtain ⟨r1, p1, v1, x1, y1⟩ := il_ix hv1 hlt
    rw [List.drop_eq_getElem_cons hlt] at hc
    obtain ⟨rest, hrest⟩ : ∃ rest, d.drop (i + 1) = rest := ⟨_, rfl⟩
    have hrl : rest.length = d.length - (i + 1) := by rw [← hrest]; simp
    rw [hrest] at hc
    simp only [arcsL] at hc
    generalize d[i] = x at y1 hc
    refine L_reg [0, 3, 4, 5] (fun K hK => ?_)
    simp [wrap_i64 (a := (i : Int) + 1) (by omega)]
    apply hK; clear hK K
    refine L_blockR (fun e' H' => ∃ (u' : AV) (A' : List (Nat × Nat)), (e' = [(0, v), (3, u'), (4, .int .i64 (i : Int))] ∨ ∃ w1 w2, e' = [(0, v), (3, u'), (4, .int .i64 (i : Int)), (5, w1), (17, w2)]) ∧ Ext H H' ∧ A'.length ≤ i + 1 ∧ OwnK 2 H.length H' u' (acs A') ∧ arcsL 0 d = A' ++ arcsL (i + 1) rest) ?_ ?_
    · refine L_loopV [3, 5] (fun q vs H' => ∃ (k : Nat), q = rest.length - k ∧ k ≤ rest.length ∧ vs = [u, .int .i64 ((i + 1 + k : Nat) : Int)] ∧ H1 = H' ∧ x ∉ rest.take k) _ [u, .int .i64 ((i : Int) + 1)] rfl ⟨0, rfl, by omega, by simp, rfl, by simp⟩ ?_
      rintro q _ _ ⟨k, rfl, hk, rfl, rfl, hx⟩
      refine L_reg [0, 3, 4, 5, 17] (fun K hK => ?_)
      simp [hvl]
      apply hK; clear hK K
      refine L_dec (k < rest.length) (by simp; omega) (fun hkl => ?_) (fun hkg => L_exit ?_)
      · refine L_block ?_
        obtain ⟨r2, p2, v2, x2, y2⟩ := il_ix hv1 (i := i + 1 + k) (by omega)
        have hre : d[i + 1 + k]'(by omega) = rest[k] := by simp only [← hrest, List.getElem_drop]
        rw [hre] at y2
        have htk := List.take_append_getElem hkl
        have hdr := List.drop_eq_getElem_cons hkl
        have hix : rest[k] = x → rest.contains x = true ∧ rest.idxOf x = k := fun e => by
          have hm : x ∈ rest := by rw [← e]; exact List.getElem_mem hkl
          refine ⟨by simpa using hm, ?_⟩
          rw [← List.take_append_drop k rest, List.idxOf_append, if_neg hx, hdr, e]
          simp; omega
        have x2' : ∀ k_1, aIndexAddr Try.prog 22 v (.int k_1 ((i : Int) + 1 + (k : Int))) = some (.ptr r2 p2 v2) := fun k_1 => by have := x2 k_1; simpa using this
        generalize rest[k] = y at y2 htk hix
        refine L_regT mixed [0, 3, 4, 5, 28] (by kernel_rfl) (fun K hK => ?_)
        simp [x1, y1, x2', y2]
        apply hK; clear hK K
        by_cases c : y = x
        · obtain ⟨c', hi2⟩ := hix c
          rw [if_pos c', hi2] at hc
          refine L_true (by simp [c]) ?_
          obtain ⟨u', H3, happ, ho3, hE3⟩ := ownK_append hE ek74' ek74' (x := [.int .i64 (i : Int), .int .i64 ((i : Int) + 1 + (k : Int))]) (m := 2) ho rfl (by simp [AV.one]) (by rw [acs_len]; omega)
          refine L_reg [0, 3, 4] (fun K hK => ?_)
          simp [bd56', row74, happ]
          apply hK; clear hK K
          refine L_exit ⟨u', A ++ [(i, i + 1 + k)], .inl rfl, hE3, by simp; omega, ?_, by rw [hc]; simp⟩
          have : acs (A ++ [(i, i + 1 + k)]) = acs A ++ [[.int .i64 (i : Int), .int .i64 ((i : Int) + 1 + (k : Int))]] := by simp [acs]
          rw [this]; exact ho3
        · refine L_false (by simp; omega) ?_
          refine L_reg [0, 3, 4, 5] (fun K hK => ?_)
          simp [wrap_i64 (a := (i : Int) + 1 + (k : Int) + 1) (by omega)]
          apply hK; clear hK K
          exact ⟨rest.length - (k + 1), [u, .int .i64 ((i + 1 + (k + 1) : Nat) : Int)], by omega, by simp; omega, k + 1, rfl, by omega, rfl, rfl, by rw [← htk]; simp [hx]; exact fun h => c h.symm⟩
      · have e : k = rest.length := by omega
        subst e
        rw [List.take_length] at hx
        rw [if_neg (by simpa using hx)] at hc
        exact ⟨u, A, .inr ⟨_, _, rfl⟩, hE, by omega, ho, by rw [hc]; simp⟩
    · rintro _ H2 ⟨u', A', rfl | ⟨w1, w2, rfl⟩, hE2, hA', ho2, hc2⟩
      all_goals
       refine L_reg [0, 3, 4] (fun K hK => ?_)
       simp [wrap_i64 (a := (i : Int) + 1) (by omega)]
       apply hK; clear hK K
       exact ⟨d.length - (i + 1), [u', .int .i64 (i + 1 : Nat)], by omega, by simp, i + 1, u', A', rfl, by omega, hA', rfl, hE2, ho2, by rw [hrest]; exact hc2⟩
  · have e : i = d.length := by omega
    subst e
    rw [List.drop_length] at hc
    simp only [arcsL, List.append_nil] at hc
    rw [← hc] at ho
    refine L_reg [2] (fun K hK => ?_)
    simp
    apply hK; clear hK K
    exact L_ret ⟨.inr rfl, _, rfl, h _ _ ho hE⟩
end Go.Proofs.Ytjaefngmidllgaa.St
