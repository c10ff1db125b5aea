/- The law of carts that park. -/
import Derived.Test.YtojblooaiojmcaaWay
import Derived.Test.YtojblooaiojmcaaWorks
namespace Go.Proofs.Ytojblooaiojmcaa
open Go Go.Proofs.Ytojblooaiojmcaa.AX

theorem diffS_same (n : Nat) : ∀ (l : List Int) (s : Nat) (out : List Int), (diffS n s l).2 = 0 → SameB s out → SameB (diffS n s l).1 (out ++ l)
  | [], s, out, _, h => by simpa [diffS] using h
  | b :: l, s, out, h0, h => by
    rw [diffS] at h0 ⊢
    split at h0
    · simp at h0
    · rename_i hb
      rw [if_neg hb]
      split at h0
      · simp at h0
      · rename_i ht
        rw [if_neg ht]
        have hb' : b = ((b.toNat : Nat) : Int) := by omega
        have := diffS_same n l _ (out ++ [b]) h0 (by conv => rhs; rw [hb']
                                                     exact h.add _)
        simpa using this

theorem rNext_ac (n w : Int) (v : AV) (l : List Int) (H : AH) (Q : AV → AH → Prop) (hl : l.length ≤ 1048576) (hv : Ls H v l) (h : Q (.tuple [.int .i64 (nextS n l w).1, .int .i64 (nextS n l w).2]) H) : AC Try.prog 21 [.int .i64 n, v, .int .i64 w] H Q := by
  refine L_body 40 Try.func21 rfl rfl ?_
  refine L_reg [0, 1, 2] (fun K hK => ?_)
  simp
  apply hK; clear hK K
  refine L_reg [0, 1, 2, 11] (fun K hK => ?_)
  simp [okFn_low]
  refine in_ac _ _ _ _ _ ?_
  simp
  apply hK; clear hK K
  rcases okBays_cases n with ⟨h0, hn1, hn8⟩ | ⟨h0, hn⟩
  case inr =>
    refine L_true (by simp; omega) ?_
    refine L_reg [6, 7] (fun K hK => ?_)
    simp
    apply hK; clear hK K
    rw [nextS, if_pos (by omega), h0] at h
    exact L_ret ⟨.inr rfl, _, rfl, h⟩
  refine L_false (by simp; omega) ?_
  rw [nextS, if_neg (by omega)] at h
  obtain ⟨m, rfl⟩ := Int.eq_ofNat_of_zero_le (show 0 ≤ n by omega)
  have hm : m ≤ 8 := by omega
  simp only [Int.toNat_natCast] at h
  refine L_reg [0, 1, 2, 8] (fun K hK => ?_)
  simp [okFn_low]
  refine rdifferent_ac m v l _ _ hm hl hv ?_
  simp
  apply hK; clear hK K
  by_cases he : (diffS m 0 l).2 = 0
  case neg =>
    rw [if_pos he] at h
    generalize (diffS m 0 l).2 = e at h he
    have he' : (e == 0) = false := by simpa using he
    refine L_reg [0, 1, 2, 8, 23] (fun K hK => ?_)
    simp [he', pickV]
    apply hK; clear hK K
    refine L_false (by simp) ?_
    refine L_reg [0, 1, 2, 8, 32] (fun K hK => ?_)
    simp [he', pickV]
    apply hK; clear hK K
    refine L_false (by simp) ?_
    refine L_reg [0, 1, 2, 8, 34] (fun K hK => ?_)
    simp
    apply hK; clear hK K
    refine L_true (by simp [he]) ?_
    refine L_reg [6, 7] (fun K hK => ?_)
    simp
    apply hK; clear hK K
    exact L_ret ⟨.inr rfl, _, rfl, h⟩
  rw [if_neg (by simp [he])] at h
  have hsb := diffS_same m l 0 [] he .zero
  rw [List.nil_append] at hsb
  rw [he]
  refine L_reg [0, 1, 2, 8, 23] (fun K hK => ?_)
  simp [okFn_low, wrap_i64 (a := (m : Int) - 1) (by omega)]
  refine in_ac _ _ _ _ _ ?_
  simp [pickV]
  apply hK; clear hK K
  by_cases hw : 0 ≤ w ∧ w < m
  case neg =>
    rw [if_pos hw] at h
    refine L_true (by simp; omega) ?_
    refine L_reg [0, 1, 2, 8] (fun K hK => ?_)
    simp
    apply hK; clear hK K
    refine L_reg [0, 1, 2, 8, 32] (fun K hK => ?_)
    simp
    apply hK; clear hK K
    refine L_false (by simp [pickV]) ?_
    refine L_reg [0, 1, 2, 8, 34] (fun K hK => ?_)
    simp
    apply hK; clear hK K
    refine L_true (by simp) ?_
    refine L_reg [6, 7] (fun K hK => ?_)
    simp
    apply hK; clear hK K
    exact L_ret ⟨.inr rfl, _, rfl, h⟩
  rw [if_neg (by simpa using hw)] at h
  obtain ⟨b, rfl⟩ := Int.eq_ofNat_of_zero_le hw.1
  have hb : b < m := by omega
  simp only [Int.toNat_natCast] at h
  have hnr := nr_ff' hsb hb
  refine L_false (by simp; omega) ?_
  refine L_reg [0, 1, 2, 8, 32] (fun K hK => ?_)
  simp [okFn_low]
  refine rnext_ac m b v l _ _ hm hl hv ?_
  simp [pickV]
  apply hK; clear hK K
  rw [hnr]
  by_cases hf : ff (diffS m 0 l).1 (m - b) b < m
  · rw [if_pos hf] at h hnr ⊢
    refine L_false (by simp) ?_
    refine L_reg [0, 1, 2, 8, 34] (fun K hK => ?_)
    simp
    apply hK; clear hK K
    refine L_false (by simp) ?_
    refine L_reg [6, 7] (fun K hK => ?_)
    simp [okFn_low]
    refine rnext_ac m b v l _ _ hm hl hv ?_
    simp
    apply hK; clear hK K
    rw [hnr]
    exact L_ret ⟨.inr rfl, _, rfl, h⟩
  · rw [if_neg hf] at h ⊢
    refine L_true (by simp) ?_
    refine L_reg [0, 1, 2, 8] (fun K hK => ?_)
    simp
    apply hK; clear hK K
    refine L_reg [0, 1, 2, 8, 34] (fun K hK => ?_)
    simp
    apply hK; clear hK K
    refine L_true (by simp) ?_
    refine L_reg [6, 7] (fun K hK => ?_)
    simp
    apply hK; clear hK K
    exact L_ret ⟨.inr rfl, _, rfl, h⟩

theorem parkedS_len (n : Int) (l : List Int) : (parkedS n l).length ≤ l.length := by
  unfold parkedS
  split
  · simp
  · rw [parkS_length]; simp [natL]

set_option maxRecDepth 100000 in
theorem dockParks_ac (n w : Int) (v : AV) (l : List Int) (H : AH) (hv : Ls H v l) : AC Try.prog 3 [.int .i64 n, v, .int .i64 w] H fun u _ => u = .bool true := by
  obtain ⟨r, off, ver, sz, full, rfl, -⟩ := id hv
  refine L_body 146 Try.func3 rfl rfl ?_
  refine L_reg [0, 1, 2] (fun K hK => ?_)
  simp
  apply hK; clear hK K
  refine L_reg [0, 1, 2, 23] (fun K hK => ?_)
  simp
  apply hK; clear hK K
  by_cases hl : 60 < l.length
  case pos =>
    refine L_true (by simp; omega) ?_
    refine L_reg [6] (fun K hK => ?_)
    simp [okFn_low]
    refine works_ac _ _ ?_
    simp
    apply hK; clear hK K
    exact L_ret ⟨.inr rfl, _, rfl, rfl⟩
  refine L_false (by simp; omega) ?_
  have hlp := parkedS_len n l
  refine L_reg [0, 1, 2, 7, 8] (fun K hK => ?_)
  simp [okFn_low]
  refine Park_ac n _ l _ _ (by omega) hv (fun v1 H1 hv1 hE1 => ?_)
  simp
  apply hK; clear hK K
  have hvA := hv.ext hE1
  refine L_reg [0, 1, 2, 7, 8, 9, 10] (fun K hK => ?_)
  simp [okFn_low]
  refine rPark_ac n _ l _ _ (by omega) hvA (fun v2 H2 hv2 hE2 => ?_)
  simp
  apply hK; clear hK K
  have hvB := hvA.ext hE2
  refine L_reg [0, 1, 2, 7, 8, 9, 10, 11, 12] (fun K hK => ?_)
  simp [okFn_low]
  refine Serves_ac n _ l _ _ (by omega) hvB (fun H3 hE3 => ?_)
  simp
  apply hK; clear hK K
  have hvC := hvB.ext hE3
  refine L_reg [0, 1, 2, 7, 8, 9, 10, 11, 12, 13, 14] (fun K hK => ?_)
  simp [okFn_low]
  refine rServes_ac n _ l _ _ (by omega) hvC (fun H4 hE4 => ?_)
  simp
  apply hK; clear hK K
  have hvD := hvC.ext hE4
  refine L_reg [0, 1, 2, 7, 8, 9, 10, 11, 12, 13, 14, 15, 16] (fun K hK => ?_)
  simp [okFn_low]
  refine Next_ac n w _ l _ _ (by omega) hvD ?_
  simp
  apply hK; clear hK K
  refine L_reg [0, 1, 7, 8, 9, 10, 11, 12, 13, 14, 15, 16, 17, 18] (fun K hK => ?_)
  simp [okFn_low]
  refine rNext_ac n w _ l _ _ (by omega) hvD ?_
  simp
  apply hK; clear hK K
  generalize nextS n l w = p
  obtain ⟨x, y⟩ := p
  have hs1 := ((hv1.ext hE2).ext hE3).ext hE4
  have hs2 := (hv2.ext hE3).ext hE4
  generalize servesS n l = sv
  refine L_reg [0, 1, 91] (fun K hK => ?_)
  simp [okFn_low]
  refine same_ac _ _ (parkedS n l) (parkedS n l) _ _ (by omega) hs1 hs2 ?_
  simp [neqB4, pickV]
  apply hK; clear hK K
  refine L_false (by simp) ?_
  refine L_reg [0, 1, 15, 16] (fun K hK => ?_)
  simp [okFn_low]
  refine Way_ac n _ l _ _ (by omega) hvD (fun H5 hE5 => ?_)
  simp
  apply hK; clear hK K
  have hvE := hvD.ext hE5
  refine L_reg [0, 1, 15, 16, 17, 18] (fun K hK => ?_)
  simp [okFn_low]
  refine rWay_ac n _ l _ _ (by omega) hvE (fun H6 hE6 => ?_)
  simp
  apply hK; clear hK K
  have hvF := hvE.ext hE6
  refine L_reg [0, 1, 8, 15, 16, 17, 18, 19] (fun K hK => ?_)
  simp [okFn_low]
  refine Lucky_ac n _ l _ _ (by omega) hvF (fun H7 hE7 => ?_)
  simp
  apply hK; clear hK K
  have hvG := hvF.ext hE7
  refine L_reg [0, 1, 8, 10, 15, 16, 17, 18, 19, 20] (fun K hK => ?_)
  simp [okFn_low]
  refine rLucky_ac n _ l _ _ (by omega) hvG (fun H8 hE8 => ?_)
  simp
  apply hK; clear hK K
  have hvH := hvG.ext hE8
  generalize wayS n l = x1
  generalize luckS n l = x2
  refine L_reg [6] (fun K hK => ?_)
  simp [okFn_low]
  refine Check_ac n _ l _ _ (by omega) hvH ?_
  simp [okFn_low]
  refine refCheck_ac n _ l _ _ (by omega) hvH ?_
  simp [okFn_low, pickV]
  refine works_ac _ _ ?_
  simp [pickV]
  apply hK; clear hK K
  exact L_ret ⟨.inr rfl, _, rfl, by simp⟩
end Go.Proofs.Ytojblooaiojmcaa
