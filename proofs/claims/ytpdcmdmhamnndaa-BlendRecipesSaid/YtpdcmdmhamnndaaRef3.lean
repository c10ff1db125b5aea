/- The reference: Count, Number, Nth, Next. -/
import Derived.Test.YtpdcmdmhamnndaaRef2
namespace Go.Proofs.Ytpdcmdmhamnndaa
open Go Go.Proofs.Ytpdcmdmhamnndaa.AX

theorem sized_ac (n k : Int) (H : AH) (Q : AV → AH → Prop) (h : Q (.int .i64 (sizeE n k)) H) : AC Try.prog 61 [.int .i64 n, .int .i64 k] H Q := by
  refine L_body 14 Try.func61 rfl rfl ?_
  refine L_reg [0, 1] (fun K hK => ?_)
  simp
  apply hK; clear hK K
  by_cases hn : 1 ≤ n ∧ n ≤ 10
  · have h1 : sizeE n k = if k < 0 ∨ n < k then 1 else 0 := if_pos (rleaves.1 hn)
    rw [h1] at h
    refine L_reg [13] (fun K hK => ?_)
    simp [okFn_low]
    refine in_ac n 1 10 _ _ ?_
    simp [okFn_low, hn]
    refine in_ac k 0 n _ _ ?_
    simp [pickV]
    apply hK; clear hK K
    by_cases hk : 0 ≤ k ∧ k ≤ n
    · refine L_false (by simp [hk]) ?_
      rw [if_neg (by omega)] at h
      refine L_reg [4] (fun K hK => ?_)
      simp
      apply hK; clear hK K
      exact L_ret ⟨.inr rfl, _, rfl, h⟩
    · refine L_true (by simp; omega) ?_
      rw [if_pos (by omega)] at h
      refine L_reg [4] (fun K hK => ?_)
      simp
      apply hK; clear hK K
      exact L_ret ⟨.inr rfl, _, rfl, h⟩
  · have hne : leavesE n ≠ 0 := fun e => hn (rleaves.2 e)
    have h0 : leavesE n = 1 := by unfold leavesE at *; split at hne <;> simp_all
    have h1 : sizeE n k = 1 := by unfold sizeE; rw [if_neg hne, h0]
    rw [h1] at h
    have hb : decide (1 ≤ n ∧ n ≤ 10) = false := decide_eq_false hn
    refine L_reg [13] (fun K hK => ?_)
    simp [okFn_low]
    refine in_ac n 1 10 _ _ ?_
    simp [hb, pickV]
    apply hK; clear hK K
    refine L_true (by simp) ?_
    refine L_reg [4] (fun K hK => ?_)
    simp
    apply hK; clear hK K
    exact L_ret ⟨.inr rfl, _, rfl, h⟩
theorem rCount_ac (n k : Int) (H : AH) (Q : AV → AH → Prop) (h : ∀ H', Ext H H' → Q (.tuple [.int .i64 (countS n k), .int .i64 (sizeE n k)]) H') : AC Try.prog 17 [.int .i64 n, .int .i64 k] H Q := by
  refine L_body 17 Try.func17 rfl rfl ?_
  refine L_reg [0, 1] (fun K hK => ?_)
  simp
  apply hK; clear hK K
  refine L_reg [0, 1, 6] (fun K hK => ?_)
  simp [okFn_low]
  refine sized_ac n k _ _ ?_
  simp
  apply hK; clear hK K
  refine L_reg [0, 1, 6, 11] (fun K hK => ?_)
  simp
  apply hK; clear hK K
  unfold countS at h
  refine L_split rfl (fun ht => ?_) (fun hf => ?_)
  · have hne : sizeE n k ≠ 0 := by simpa using ht
    rw [if_neg hne] at h
    refine L_reg [4, 5] (fun K hK => ?_)
    simp
    apply hK; clear hK K
    exact L_ret ⟨.inr rfl, _, rfl, h _ (.refl H)⟩
  · have he : sizeE n k = 0 := by simpa using hf
    rw [if_pos he, he] at h
    obtain ⟨N, M, rfl, rfl, hK1, hN, -⟩ := size_ok he
    have hT := round_le2 (k := M) hN
    refine L_reg [4, 5] (fun K hK => ?_)
    simp [okFn_low]
    refine rround_ac N M hK1 hN H _ (fun v' H' hR hE => ?_)
    obtain ⟨r, ver, rfl, -⟩ := hR.get
    simp
    apply hK; clear hK K
    exact L_ret ⟨.inr rfl, _, rfl, by simpa [fS] using h _ hE⟩
set_option maxRecDepth 100000 in
theorem rNumber_ac (n : Int) (v : AV) (b : List Int) (H : AH) (Q : AV → AH → Prop) (hb : b.length ≤ 1000000) (hv : Ls H v b) (h : ∀ H', Ext H H' → Q (.tuple [.int .i64 (numS n b), .int .i64 (checkE n b)]) H') : AC Try.prog 19 [.int .i64 n, v] H Q := by
  obtain ⟨r0, off0, ver0, sz0, full0, rfl, -⟩ := id hv
  refine L_body 29 Try.func19 rfl rfl ?_
  refine L_reg [0, 1] (fun K hK => ?_)
  simp
  apply hK; clear hK K
  refine L_reg [0, 1, 6] (fun K hK => ?_)
  simp [okFn_low]
  refine rCheck_ac n _ b _ _ hb hv ?_
  simp
  apply hK; clear hK K
  refine L_reg [0, 1, 6, 13] (fun K hK => ?_)
  simp
  apply hK; clear hK K
  unfold numS at h
  refine L_split rfl (fun ht => ?_) (fun hf => ?_)
  · have hne : checkE n b ≠ 0 := by simpa using ht
    rw [if_neg hne] at h
    refine L_reg [4, 5] (fun K hK => ?_)
    simp
    apply hK; clear hK K
    exact L_ret ⟨.inr rfl, _, rfl, h _ (.refl H)⟩
  · have he : checkE n b = 0 := by simpa using hf
    rw [if_pos he, he] at h
    obtain ⟨N, rfl, hN, -, hok⟩ := check_ok he
    have hT := round_le2 (k := b.length) hN
    have hfS : fS N b.length = roundS N b.length := by simp [fS]
    rw [hfS] at h
    have hm := okb_mem hok
    have hml := roundS_len N b.length
    refine L_reg [1, 7] (fun K hK => ?_)
    simp [okFn_low]
    refine rround_ac N b.length (okb_len hok) hN H _ (fun v' H1 hR hE => ?_)
    simp
    apply hK; clear hK K
    generalize roundS N b.length = F at *
    obtain ⟨g1, g2⟩ := idxS_get hm
    obtain ⟨r, ver, rfl, hget⟩ := hR.get
    have hbv := hv.ext hE
    refine L_reg [1, 7, 8] (fun K hK => ?_)
    simp
    apply hK; clear hK K
    refine L_block (L_loopV [8] (fun k vs H' => ∃ i : Nat, k = idxS b F - i ∧ i ≤ idxS b F ∧ i + idxS b (F.drop i) = idxS b F ∧ vs = [.int .i64 i] ∧ H1 = H') _ [.int .i64 (0 : Nat)] rfl ⟨0, rfl, by omega, by simp, rfl, rfl⟩ ?_)
    rintro k _ _ ⟨i, rfl, hi, hx, rfl, rfl⟩
    have hlt : i < F.length := by omega
    obtain ⟨w, hw1, hw2⟩ := hget i hlt
    rw [idxS_drop hlt] at hx
    refine L_reg [1, 7, 8, 25] (fun K hK => ?_)
    simp [okFn_low, hlt, hw1]
    refine rsame_ac w _ F[i] b _ _ (by have := hml _ (List.getElem_mem hlt); omega) hw2 hbv ?_
    simp
    apply hK; clear hK K
    by_cases hs : F[i] = b
    · refine L_false (by simp [hs]) (L_exit ?_)
      rw [if_pos hs] at hx
      refine L_reg [4, 5] (fun K hK => ?_)
      simp
      apply hK; clear hK K
      exact L_ret ⟨.inr rfl, _, rfl, by rw [← hx] at h; exact h _ hE⟩
    · refine L_true (by simp [hs]) ?_
      rw [if_neg hs] at hx
      refine L_block ?_
      refine L_reg [1, 7, 8] (fun K hK => ?_)
      simp [wrap_i64 (a := (i : Int) + 1) (by omega)]
      apply hK; clear hK K
      exact ⟨idxS b F - (i + 1), [.int .i64 (i + 1 : Nat)], by omega, by simp, i + 1, rfl, by omega, by omega, rfl, rfl⟩
set_option maxRecDepth 100000 in
theorem rNth_ac (n k i : Int) (H : AH) (Q : AV → AH → Prop) (h : ∀ v' H', Ls H' v' (nthS n k i) → Ext H H' → Q (.tuple [v', .int .i64 (nthE n k i)]) H') : AC Try.prog 21 [.int .i64 n, .int .i64 k, .int .i64 i] H Q := by
  refine L_body 34 Try.func21 rfl rfl ?_
  refine L_reg [0, 1, 2] (fun K hK => ?_)
  simp
  apply hK; clear hK K
  refine L_reg [0, 1, 2, 8, 9] (fun K hK => ?_)
  simp [okFn_low]
  refine rCount_ac n k H _ (fun H1 hE => ?_)
  simp
  apply hK; clear hK K
  unfold nthS at h
  by_cases he : sizeE n k = 0
  · obtain ⟨N, M, rfl, rfl, hK1, hN, -⟩ := size_ok he
    have hT := round_le2 (k := M) hN
    have hfS : fS N M = roundS N M := by simp [fS]
    have hE0 : nthE N M i = if i < 0 ∨ ((roundS N M).length : Int) ≤ i then 2 else 0 := by rw [← hfS]; exact if_pos he
    have hc : countS N M = ((roundS N M).length : Int) := by rw [← hfS]; exact if_pos he
    rw [hfS] at h
    refine L_reg [0, 1, 2, 9, 24] (fun K hK => ?_)
    simp [okFn_low, he, hc, wrap_i64 (a := ((roundS N M).length : Int) - 1) (by omega)]
    refine in_ac i 0 _ _ _ ?_
    simp [pickV]
    apply hK; clear hK K
    by_cases hi : 0 ≤ i ∧ i ≤ ((roundS N M).length : Int) - 1
    · refine L_false (by simp [hi]) ?_
      rw [if_neg (by omega)] at hE0
      rw [hE0, if_pos rfl] at h
      refine L_reg [0, 1, 2, 9, 26] (fun K hK => ?_)
      simp [he]
      apply hK; clear hK K
      refine L_false (by simp) ?_
      obtain ⟨m, rfl⟩ : ∃ m : Nat, i = (m : Int) := ⟨i.toNat, by omega⟩
      have hm : m < (roundS N M).length := by omega
      refine L_reg [6, 7] (fun K0 hK0 => ?_)
      simp [okFn_low]
      refine rround_ac N M hK1 hN H1 _ (fun v' H2 hR hE2 => ?_)
      obtain ⟨r, ver, rfl, hget⟩ := hR.get
      obtain ⟨w, hw1, hw2⟩ := hget m hm
      simp [hm, hw1]
      apply hK0; clear hK0 K0
      exact L_ret ⟨.inr rfl, _, rfl, h _ _ (by simpa [hm] using hw2) (hE.trans hE2)⟩
    · refine L_true (by simp; omega) ?_
      rw [if_pos (by omega)] at hE0
      rw [hE0, if_neg (by decide)] at h
      refine L_reg [0, 1, 2, 9] (fun K hK => ?_)
      simp
      apply hK; clear hK K
      refine L_reg [0, 1, 2, 9, 26] (fun K hK => ?_)
      simp
      apply hK; clear hK K
      refine L_true (by simp) ?_
      refine L_reg [6, 7] (fun K hK => ?_)
      simp
      apply hK; clear hK K
      exact L_ret ⟨.inr rfl, _, rfl, h _ _ (Ls.none H1) hE⟩
  · have hE0 : nthE n k i = sizeE n k := if_neg he
    rw [hE0, if_neg he] at h
    have hb : (sizeE n k == 0) = false := by simpa using he
    refine L_reg [0, 1, 2, 9, 24] (fun K hK => ?_)
    simp [hb, pickV]
    apply hK; clear hK K
    refine L_false (by simp) ?_
    refine L_reg [0, 1, 2, 9, 26] (fun K hK => ?_)
    simp
    apply hK; clear hK K
    refine L_true (by simp [he]) ?_
    refine L_reg [6, 7] (fun K hK => ?_)
    simp
    apply hK; clear hK K
    exact L_ret ⟨.inr rfl, _, rfl, h _ _ (Ls.none H1) hE⟩
theorem rless_ac (u v : AV) (l o : List Int) (H : AH) (Q : AV → AH → Prop) (hl : l.length ≤ 1000000) (ho : o.length ≤ 1000000) (hu : Ls H u l) (hv : Ls H v o) (h : ∀ v' H', OwnF H.length H' v' ((lack l o).map (.int .i64)) → Ext H H' → Q v' H') : AC Try.prog 68 [u, v] H Q := by
  obtain ⟨r, off, ver, sz, full, rfl, hld⟩ := hu
  refine L_body 28 Try.func68 rfl rfl ?_
  refine L_reg [0, 1] (fun K hK => ?_)
  simp
  apply hK; clear hK K
  refine L_reg [0, 1, 5] (fun K hK => ?_)
  simp
  apply hK; clear hK K
  refine L_reg [0, 1, 5, 6] (fun K hK => ?_)
  simp
  apply hK; clear hK K
  refine L_block (L_loopV [5, 6] (fun k vs H' => ∃ (i : Nat) (w : AV), k = l.length - i ∧ i ≤ l.length ∧ OwnF H.length H' w ((lack (l.take i) o).map (.int .i64)) ∧ Ext H H' ∧ vs = [w, .int .i64 i]) _ [.slice none 0 0 0 1 false, .int .i64 (0 : Nat)] rfl ⟨0, _, rfl, by omega, .nil _ _, .refl H, rfl⟩ ?_)
  rintro k _ H1 ⟨i, w, rfl, hi, hO, hE, rfl⟩
  refine L_reg [0, 1, 5, 6, 10] (fun K hK => ?_)
  simp
  apply hK; clear hK K
  refine L_dec (i < l.length) (by simp) (fun hlt => ?_) (fun hge => L_exit ?_)
  · obtain ⟨r', rfl, rfl, hrd⟩ := hld i hlt
    have hrd1 := hE.ld hrd
    refine L_block ?_
    refine L_reg [0, 1, 5, 6, 19] (fun K hK => ?_)
    simp [okFn_low, hlt, hrd1]
    refine has_ac v o l[i] _ _ ho (hv.ext hE) ?_
    simp
    apply hK; clear hK K
    by_cases hm : l[i] ∈ o
    · refine L_false (by simp [hm]) ?_
      refine L_reg [0, 1, 5, 6] (fun K hK => ?_)
      simp [wrap_i64 (a := (i : Int) + 1) (by omega)]
      apply hK; clear hK K
      exact ⟨l.length - (i + 1), [w, .int .i64 (i + 1 : Nat)], by omega, by simp, i + 1, w, rfl, by omega, by rw [lack_take hlt]; simpa [hm] using hO, hE, rfl⟩
    · refine L_true (by simp [hm]) ?_
      have hlk : (lack (l.take i) o).length ≤ i := by
        unfold lack
        exact Nat.le_trans (List.length_filter_le _ _) (by simp; omega)
      obtain ⟨v', H', he, hO', hE'⟩ := ownF_append hE el22 el22 (x := .int .i64 l[i]) (m := 1) hO rfl (by simp; omega)
      refine L_reg [0, 1, 5, 6] (fun K hK => ?_)
      simp [hlt, hrd1, he]
      apply hK; clear hK K
      refine L_reg [0, 1, 5, 6] (fun K hK => ?_)
      simp [wrap_i64 (a := (i : Int) + 1) (by omega)]
      apply hK; clear hK K
      exact ⟨l.length - (i + 1), [v', .int .i64 (i + 1 : Nat)], by omega, by simp, i + 1, v', rfl, by omega, by rw [lack_take hlt]; simpa [hm] using hO', hE', rfl⟩
  · obtain rfl : i = l.length := by omega
    rw [List.take_length] at hO
    refine L_reg [4] (fun K hK => ?_)
    simp
    apply hK; clear hK K
    exact L_ret ⟨.inr rfl, _, rfl, h _ _ hO hE⟩
theorem rless_q (u v : AV) (l o : List Int) (H : AH) (hl : l.length ≤ 1000000) (ho : o.length ≤ 1000000) (hu : Ls H u l) (hv : Ls H v o) (hne : lack l o ≠ []) (Q : AV → AH → Prop)
    (hq : Q (.slice (some H.length) 0 (lack l o).length 0 1 false) (H ++ [.row ((lack l o).map (.int .i64)) 0 (lack l o).length false])) : AC Try.prog 68 [u, v] H Q := by
  refine AC.tidy (l := (lack l o).map (.int .i64)) (by simpa using hne) (belB_ints _ _) (fun Q h => rless_ac u v l o H Q hl ho hu hv h) Q ?_
  simpa using hq
set_option maxRecDepth 100000 in
theorem rNext_ac (n : Int) (v : AV) (b : List Int) (H : AH) (Q : AV → AH → Prop) (hb : b.length ≤ 1000000) (hv : Ls H v b) (h : ∀ v' H', Ls H' v' (nextS n b) → Ext H H' → Q (.tuple [v', .int .i64 (outS n b), .int .i64 (inS n b), .int .i64 (nextE n b)]) H') : AC Try.prog 24 [.int .i64 n, v] H Q := by
  obtain ⟨r0, off0, ver0, sz0, full0, rfl, -⟩ := id hv
  refine L_body 47 Try.func24 rfl rfl ?_
  refine L_reg [0, 1] (fun K hK => ?_)
  simp
  apply hK; clear hK K
  refine L_reg [0, 1, 8, 9] (fun K hK => ?_)
  simp [okFn_low]
  refine rNumber_ac n _ b H _ hb hv (fun H1 hE => ?_)
  simp
  apply hK; clear hK K
  refine L_reg [0, 1, 8, 9, 19] (fun K hK => ?_)
  simp
  apply hK; clear hK K
  refine L_split rfl (fun ht => ?_) (fun hf => ?_)
  · have hne : checkE n b ≠ 0 := by simpa using ht
    have hE0 : nextE n b = checkE n b := if_neg hne
    simp only [outS, inS, nextS, hE0, if_neg hne] at h
    refine L_reg [4, 5, 6, 7] (fun K hK => ?_)
    simp
    apply hK; clear hK K
    exact L_ret ⟨.inr rfl, _, rfl, h _ _ (Ls.none H1) hE⟩
  · have he : checkE n b = 0 := by simpa using hf
    have hE0 : nextE n b = if b.length = 0 ∨ (b.length : Int) = n then 12 else 0 := if_pos he
    have hnum : numS n b = (idxS b (fS n b.length) : Int) := if_pos he
    obtain ⟨N, rfl, hN, -, hok⟩ := check_ok he
    have hT := round_le2 (k := b.length) hN
    have hfS : fS N b.length = roundS N b.length := by simp [fS]
    have hlb := okb_len hok
    have hone := round_one hlb
    rw [hfS] at hnum
    have hbv1 := hv.ext hE
    refine L_reg [1, 8, 10] (fun K hK => ?_)
    simp [okFn_low]
    refine rround_ac N b.length hlb hN H1 _ (fun vF H2 hR hE2 => ?_)
    obtain ⟨r, ver, rfl, hget⟩ := hR.get
    simp
    apply hK; clear hK K
    have hE := hE.trans hE2
    have hbv := hbv1.ext hE2
    by_cases hc : b.length = 0 ∨ (b.length : Int) = N
    · rw [if_pos hc] at hE0
      simp only [outS, inS, nextS, hE0] at h
      have h1 : (roundS N b.length).length = 1 := hone.2 (by omega)
      refine L_reg [1, 8, 10, 27] (fun K hK => ?_)
      simp
      apply hK; clear hK K
      refine L_true (by simp [h1]) ?_
      refine L_reg [4, 5, 6, 7] (fun K hK => ?_)
      simp
      apply hK; clear hK K
      exact L_ret ⟨.inr rfl, _, rfl, h _ _ (Ls.none H2) hE⟩
    · have h0 : b.length ≠ 0 := by omega
      have h1 : b.length ≠ N := by omega
      rw [if_neg hc] at hE0
      obtain ⟨hlt, hne⟩ := next_ne hok h0 h1
      simp only [outS, inS, nextS, hE0, if_true, hfS] at h
      have hi := (idxS_get (okb_mem hok)).1
      have hmem := List.getElem_mem hlt
      have hlen := roundS_len _ _ _ hmem
      have hokn := okb_round hmem
      have hT1 : (roundS N b.length).length ≠ 1 := fun e => by rcases hone.1 e with e | e <;> omega
      refine L_reg [1, 8, 10, 27] (fun K hK => ?_)
      simp
      apply hK; clear hK K
      refine L_false (by simp; omega) ?_
      generalize hF : roundS N b.length = F at *
      rw [List.getElem?_eq_getElem hlt] at h
      simp only [Option.getD_some] at h
      generalize hj : (idxS b F + 1) % F.length = j at *
      have hF0 : F.length ≠ 0 := by omega
      have hmod : ((idxS b F : Int) + 1).tmod (F.length : Int) = (j : Int) := by rw [← hj]; exact (Int.ofNat_tmod (idxS b F + 1) F.length).symm
      obtain ⟨v', hw1, hv1⟩ := hget j hlt
      refine L_reg [1, 11] (fun K hK => ?_)
      simp [hnum, wrap_i64 (a := (idxS b F : Int) + 1) (by omega), hF0, hmod, wrap_i64 (a := (j : Int)) (by omega), hlt, hw1]
      apply hK; clear hK K
      have hl1 := lack_ne hok hokn hlen.symm (Ne.symm hne)
      have hl2 := lack_ne hokn hok hlen hne
      generalize hx : F[j] = x at *
      have hp1 : 0 < (lack b x).length := List.length_pos_iff.2 hl1
      have hp2 : 0 < (lack x b).length := List.length_pos_iff.2 hl2
      have e1 := head_ls (H := H2) hl1
      have hE3 : Ext H2 (H2 ++ [AObj.row ((lack b x).map (.int .i64)) 0 (lack b x).length false]) := .push _ _
      have e2 := head_ls (H := H2 ++ [AObj.row ((lack b x).map (.int .i64)) 0 (lack b x).length false]) hl2
      refine L_regX mixed [4, 5, 6, 7] (by kernel_rfl) (fun K hK => ?_)
      simp [okFn_low]
      refine exX_mk (fun Q hQ => rless_q _ v' b x H2 (by omega) (by omega) hbv hv1 hl1 Q hQ) (.push _ _) ?_
      simp [okFn_low, hp1, e1]
      refine exX_mk (fun Q hQ => rless_q v' _ x b _ (by omega) (by omega) (hv1.ext hE3) (hbv.ext hE3) hl2 Q hQ) (.push _ _) ?_
      simp [hp2] at e2 ⊢
      simp [e2]
      apply hK; clear hK K
      exact L_ret ⟨.inr rfl, _, rfl, by simpa using h v' _ (hv1.ext (hE3.trans (.push _ [AObj.row ((lack x b).map (.int .i64)) 0 (lack x b).length false]))) (hE.trans (hE3.trans (.push _ [AObj.row ((lack x b).map (.int .i64)) 0 (lack x b).length false])))⟩
end Go.Proofs.Ytpdcmdmhamnndaa
