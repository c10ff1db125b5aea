/- BlendRounds, walked. -/
import Derived.Test.YtpdcmdmhamnndaaRef3
import Derived.Test.YtpdcmdmhamnndaaWorks
namespace Go.Proofs.Ytpdcmdmhamnndaa
open Go Go.Proofs.Ytpdcmdmhamnndaa.AX

/-- What is asked of one list. -/
theorem large_ac (l : List Int) (v : AV) (q : Nat) (s : Nat) (H : AH) (Q : AV → AH → Prop) (hq : H[q]? = some (.row [v] 0 s false)) (hv : Ls H v l) (h : Q (.bool (decide (60 < l.length))) H) : AC Try.prog 14 [.slice (some q) 0 1 0 1 false] H Q := by
  obtain ⟨r, off, ver, sz, full, rfl, -⟩ := hv
  have hld : ld H q 0 0 = some (.slice r off l.length ver sz full) := by rw [ld_row hq]; rfl
  refine L_body 16 Try.func14 rfl rfl ?_
  refine L_reg [0] (fun K hK => ?_)
  simp
  apply hK; clear hK K
  refine L_reg [0, 3] (fun K hK => ?_)
  simp
  apply hK; clear hK K
  refine L_block (L_loopV [3] (fun k vs H' => ∃ i : Nat, k = 1 - i ∧ i ≤ 1 ∧ (i = 1 → l.length ≤ 60) ∧ vs = [.int .i64 i] ∧ H = H') _ [.int .i64 (0 : Nat)] rfl ⟨0, rfl, by omega, by omega, rfl, rfl⟩ ?_)
  rintro k _ _ ⟨i, rfl, hi, hle, rfl, rfl⟩
  refine L_reg [0, 3, 7] (fun K hK => ?_)
  simp
  apply hK; clear hK K
  refine L_dec ((i : Int) < 1) (by simp) (fun hlt => ?_) (fun hge => L_exit ?_)
  · obtain rfl : i = 0 := by omega
    refine L_block ?_
    refine L_reg [0, 3, 15] (fun K hK => ?_)
    simp [hld]
    apply hK; clear hK K
    refine L_dec ((60 : Int) < l.length) (by simp) (fun h1 => ?_) (fun h1 => ?_)
    · have hd : decide (60 < l.length) = true := decide_eq_true (by omega)
      rw [hd] at h
      refine L_reg [2] (fun K hK => ?_)
      simp
      apply hK; clear hK K
      exact L_ret ⟨.inr rfl, _, rfl, h⟩
    · refine L_reg [0, 3] (fun K hK => ?_)
      simp [wrap_i64 (a := 1) (by omega)]
      apply hK; clear hK K
      exact ⟨0, [.int .i64 (1 : Nat)], by omega, by simp, 1, rfl, by omega, by omega, rfl, rfl⟩
  · have hd : decide (60 < l.length) = false := decide_eq_false (by omega)
    rw [hd] at h
    refine L_reg [2] (fun K hK => ?_)
    simp
    apply hK; clear hK K
    exact L_ret ⟨.inr rfl, _, rfl, h⟩

set_option maxRecDepth 100000 in
theorem blendRounds_ac (n : Int) (v : AV) (l : List Int) (k i : Int) (H : AH) (hv : Ls H v l) : AC Try.prog 3 [.int .i64 n, v, .int .i64 k, .int .i64 i] H fun u _ => u = .bool true := by
  obtain ⟨r, off, ver, sz, full, rfl, -⟩ := id hv
  refine L_body 144 Try.func3 rfl rfl ?_
  refine L_reg [0, 1, 2, 3] (fun K hK => ?_)
  simp
  apply hK; clear hK K
  refine L_reg [0, 1, 2, 3, 29] (fun K hK => ?_)
  simp [okFn_low]
  refine large_ac l (.slice r off l.length ver sz full) H.length 1 _ _ (by simp) (hv.ext (.push _ _)) ?_
  simp
  apply hK; clear hK K
  have hv := hv.ext (.push H [AObj.row [.slice r off l.length ver sz full] 0 1 false])
  generalize H ++ [AObj.row [.slice r off l.length ver sz full] 0 1 false] = H0 at hv ⊢
  refine L_dec (60 < l.length) (by simp) (fun h1 => ?_) (fun h1 => ?_)
  · refine L_reg [8] (fun K hK => ?_)
    simp [okFn_low]
    refine works_ac _ _ ?_
    simp
    apply hK; clear hK K
    exact L_ret ⟨.inr rfl, _, rfl, rfl⟩
  have hl : l.length ≤ 1000000 := by omega
  refine L_reg [0, 1, 2, 3, 9, 10] (fun K hK => ?_)
  simp [okFn_low]
  refine Count_ac n k _ _ ?_
  simp
  apply hK; clear hK K
  refine L_reg [0, 1, 2, 3, 9, 10, 11, 12] (fun K hK => ?_)
  simp [okFn_low]
  refine rCount_ac n k H0 _ (fun H1 hE1 => ?_)
  simp
  apply hK; clear hK K
  have hv := hv.ext hE1
  refine L_reg [0, 1, 2, 3, 9, 10, 11, 12, 13, 14] (fun K hK => ?_)
  simp [okFn_low]
  refine Number_ac n _ l _ _ hl hv ?_
  simp
  apply hK; clear hK K
  refine L_reg [0, 1, 2, 3, 9, 10, 11, 12, 13, 14, 15, 16] (fun K hK => ?_)
  simp [okFn_low]
  refine rNumber_ac n _ l H1 _ hl hv (fun H2 hE2 => ?_)
  simp
  apply hK; clear hK K
  have hv := hv.ext hE2
  refine L_reg [0, 1, 2, 3, 9, 10, 11, 12, 13, 14, 15, 16, 17, 18] (fun K hK => ?_)
  simp [okFn_low]
  refine Nth_ac n k i H2 _ (fun v1 H3 hL1 hE3 => ?_)
  simp
  apply hK; clear hK K
  have hv := hv.ext hE3
  refine L_reg [0, 1, 9, 10, 11, 12, 13, 14, 15, 16, 17, 18, 19, 20] (fun K hK => ?_)
  simp [okFn_low]
  refine rNth_ac n k i H3 _ (fun v2 H4 hL2 hE4 => ?_)
  simp
  apply hK; clear hK K
  have hv := hv.ext hE4
  have hL1 := hL1.ext hE4
  have hsm : (nthS n k i).length ≤ 1048576 := by
    unfold nthS
    split
    · rename_i h0
      cases hg : (fS n k)[i.toNat]? with
      | none => simp
      | some x =>
        have hm := okb_len (okb_round (List.mem_of_getElem? hg))
        have h2 : sizeE n k = 0 := by
          unfold nthE at h0; split at h0
          · assumption
          · exact h0
        obtain ⟨N, M, rfl, rfl, -, hN, -⟩ := size_ok h2
        simp at hm ⊢; omega
    · simp
  refine L_reg [0, 1, 97] (fun K hK => ?_)
  simp [okFn_low, pickV]
  refine same_ac v1 v2 _ _ H4 _ hsm hL1 hL2 ?_
  simp [pickV]
  apply hK; clear hK K
  refine L_false (by simp) ?_
  refine L_reg [0, 1, 10, 21, 22, 23] (fun K hK => ?_)
  simp [okFn_low]
  refine Next_ac n _ l H4 _ hl hv (fun v3 H5 hL3 hE5 => ?_)
  simp
  apply hK; clear hK K
  have hv := hv.ext hE5
  refine L_reg [0, 1, 10, 12, 21, 22, 23, 24, 25, 26] (fun K hK => ?_)
  simp [okFn_low]
  refine rNext_ac n _ l H5 _ hl hv (fun v4 H6 hL4 hE6 => ?_)
  simp
  apply hK; clear hK K
  have hv := hv.ext hE6
  have hL3 := hL3.ext hE6
  have hsm2 : (nextS n l).length ≤ 1048576 := by
    unfold nextS
    split
    · rename_i h0
      cases hg : (fS n l.length)[(idxS l (fS n l.length) + 1) % (fS n l.length).length]? with
      | none => simp
      | some x =>
        have hm := okb_len (okb_round (List.mem_of_getElem? hg))
        have h2 : checkE n l = 0 := by
          unfold nextE at h0; split at h0
          · assumption
          · exact h0
        obtain ⟨N, rfl, hN, -, -⟩ := check_ok h2
        simp at hm ⊢; omega
    · simp
  refine L_reg [8] (fun K hK => ?_)
  simp [okFn_low]
  refine same_ac v3 v4 _ _ H6 _ hsm2 hL3 hL4 ?_
  simp [okFn_low, pickV]
  refine Check_ac n _ l H6 _ hl hv ?_
  simp [okFn_low, pickV]
  refine rCheck_ac n _ l H6 _ hl hv ?_
  simp [okFn_low, pickV]
  refine works_ac _ _ ?_
  simp [pickV]
  apply hK; clear hK K
  exact L_ret ⟨.inr rfl, _, rfl, rfl⟩
end Go.Proofs.Ytpdcmdmhamnndaa
