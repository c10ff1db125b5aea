/- Joined texts: Ref3, Ways2, Rec, Rec2, Grow, Fit, Fit2, Walk5, Near, Near2, Near3, Near4, Near5, Near6, Walk6. -/
import Derived.Test.YtmoifofihafgmaaJd2fa
import Derived.Test.YtmoifofihafgmaaAxR
/- The reference: Count, Number, Nth, Next. -/
namespace Go.Proofs.Ytmoifofihafgmaa
open Go Go.Proofs.Ytmoifofihafgmaa.AX

theorem sized_ac (n k : Int) (H : AH) (Q : AV → AH → Prop) (h : Q (.int .i64 (sizeE n k)) H) : AC Try.prog 61 [.int .i64 n, .int .i64 k] H Q := by
  refine L_body 14 Try.func61 rfl rfl ?_
  refine L_reg [0, 1] (fun K hK => ?_)
  simp
  apply hK; clear hK K
  by_cases hn : 1 ≤ n ∧ n ≤ 10
  · have h1 : sizeE n k = if k < 0 ∨ n < k then 1 else 0 := if_pos (rleaves.1 hn)
    rw [h1] at h
    refine L_reg [13] (fun K hK => ?_)
    simp [okFn_low]
    refine in_ac n 1 10 _ _ ?_
    simp [okFn_low, hn]
    refine in_ac k 0 n _ _ ?_
    simp [pickV]
    apply hK; clear hK K
    by_cases hk : 0 ≤ k ∧ k ≤ n
    · refine L_false (by simp [hk]) ?_
      rw [if_neg (by omega)] at h
      refine L_reg [4] (fun K hK => ?_)
      simp
      apply hK; clear hK K
      exact L_ret ⟨.inr rfl, _, rfl, h⟩
    · refine L_true (by simp; omega) ?_
      rw [if_pos (by omega)] at h
      refine L_reg [4] (fun K hK => ?_)
      simp
      apply hK; clear hK K
      exact L_ret ⟨.inr rfl, _, rfl, h⟩
  · have hne : leavesE n ≠ 0 := fun e => hn (rleaves.2 e)
    have h0 : leavesE n = 1 := by unfold leavesE at *; split at hne <;> simp_all
    have h1 : sizeE n k = 1 := by unfold sizeE; rw [if_neg hne, h0]
    rw [h1] at h
    have hb : decide (1 ≤ n ∧ n ≤ 10) = false := decide_eq_false hn
    refine L_reg [13] (fun K hK => ?_)
    simp [okFn_low]
    refine in_ac n 1 10 _ _ ?_
    simp [hb, pickV]
    apply hK; clear hK K
    refine L_true (by simp) ?_
    refine L_reg [4] (fun K hK => ?_)
    simp
    apply hK; clear hK K
    exact L_ret ⟨.inr rfl, _, rfl, h⟩
theorem rCount_ac (n k : Int) (H : AH) (Q : AV → AH → Prop) (h : ∀ H', Ext H H' → Q (.tuple [.int .i64 (countS n k), .int .i64 (sizeE n k)]) H') : AC Try.prog 17 [.int .i64 n, .int .i64 k] H Q := by
  refine L_body 17 Try.func17 rfl rfl ?_
  refine L_reg [0, 1] (fun K hK => ?_)
  simp
  apply hK; clear hK K
  refine L_reg [0, 1, 6] (fun K hK => ?_)
  simp [okFn_low]
  refine sized_ac n k _ _ ?_
  simp
  apply hK; clear hK K
  refine L_reg [0, 1, 6, 11] (fun K hK => ?_)
  simp
  apply hK; clear hK K
  unfold countS at h
  refine L_split rfl (fun ht => ?_) (fun hf => ?_)
  · have hne : sizeE n k ≠ 0 := by simpa using ht
    rw [if_neg hne] at h
    refine L_reg [4, 5] (fun K hK => ?_)
    simp
    apply hK; clear hK K
    exact L_ret ⟨.inr rfl, _, rfl, h _ (.refl H)⟩
  · have he : sizeE n k = 0 := by simpa using hf
    rw [if_pos he, he] at h
    obtain ⟨N, M, rfl, rfl, hK1, hN, -⟩ := size_ok he
    have hT := round_le2 (k := M) hN
    refine L_reg [4, 5] (fun K hK => ?_)
    simp [okFn_low]
    refine rround_ac N M hK1 hN H _ (fun v' H' hR hE => ?_)
    obtain ⟨r, ver, rfl, -⟩ := hR.get
    simp
    apply hK; clear hK K
    exact L_ret ⟨.inr rfl, _, rfl, by simpa [fS] using h _ hE⟩
set_option maxRecDepth 100000 in
theorem rNumber_ac (n : Int) (v : AV) (b : List Int) (H : AH) (Q : AV → AH → Prop) (hb : b.length ≤ 1000000) (hv : Ls H v b) (h : ∀ H', Ext H H' → Q (.tuple [.int .i64 (numS n b), .int .i64 (checkE n b)]) H') : AC Try.prog 19 [.int .i64 n, v] H Q := by
  obtain ⟨r0, off0, ver0, sz0, full0, rfl, -⟩ := id hv
  refine L_body 29 Try.func19 rfl rfl ?_
  refine L_reg [0, 1] (fun K hK => ?_)
  simp
  apply hK; clear hK K
  refine L_reg [0, 1, 6] (fun K hK => ?_)
  simp [okFn_low]
  refine rCheck_ac n _ b _ _ hb hv ?_
  simp
  apply hK; clear hK K
  refine L_reg [0, 1, 6, 13] (fun K hK => ?_)
  simp
  apply hK; clear hK K
  unfold numS at h
  refine L_split rfl (fun ht => ?_) (fun hf => ?_)
  · have hne : checkE n b ≠ 0 := by simpa using ht
    rw [if_neg hne] at h
    refine L_reg [4, 5] (fun K hK => ?_)
    simp
    apply hK; clear hK K
    exact L_ret ⟨.inr rfl, _, rfl, h _ (.refl H)⟩
  · have he : checkE n b = 0 := by simpa using hf
    rw [if_pos he, he] at h
    obtain ⟨N, rfl, hN, -, hok⟩ := check_ok he
    have hT := round_le2 (k := b.length) hN
    have hfS : fS N b.length = roundS N b.length := by simp [fS]
    rw [hfS] at h
    have hm := okb_mem hok
    have hml := roundS_len N b.length
    refine L_reg [1, 7] (fun K hK => ?_)
    simp [okFn_low]
    refine rround_ac N b.length (okb_len hok) hN H _ (fun v' H1 hR hE => ?_)
    simp
    apply hK; clear hK K
    generalize roundS N b.length = F at *
    obtain ⟨g1, g2⟩ := idxS_get hm
    obtain ⟨r, ver, rfl, hget⟩ := hR.get
    have hbv := hv.ext hE
    refine L_reg [1, 7, 8] (fun K hK => ?_)
    simp
    apply hK; clear hK K
    refine L_block (L_loopV [8] (fun k vs H' => ∃ i : Nat, k = idxS b F - i ∧ i ≤ idxS b F ∧ i + idxS b (F.drop i) = idxS b F ∧ vs = [.int .i64 i] ∧ H1 = H') _ [.int .i64 (0 : Nat)] rfl ⟨0, rfl, by omega, by simp, rfl, rfl⟩ ?_)
    rintro k _ _ ⟨i, rfl, hi, hx, rfl, rfl⟩
    have hlt : i < F.length := by omega
    obtain ⟨w, hw1, hw2⟩ := hget i hlt
    rw [idxS_drop hlt] at hx
    refine L_reg [1, 7, 8, 25] (fun K hK => ?_)
    simp [okFn_low, hlt, hw1]
    refine rsame_ac w _ F[i] b _ _ (by have := hml _ (List.getElem_mem hlt); omega) hw2 hbv ?_
    simp
    apply hK; clear hK K
    by_cases hs : F[i] = b
    · refine L_false (by simp [hs]) (L_exit ?_)
      rw [if_pos hs] at hx
      refine L_reg [4, 5] (fun K hK => ?_)
      simp
      apply hK; clear hK K
      exact L_ret ⟨.inr rfl, _, rfl, by rw [← hx] at h; exact h _ hE⟩
    · refine L_true (by simp [hs]) ?_
      rw [if_neg hs] at hx
      refine L_block ?_
      refine L_reg [1, 7, 8] (fun K hK => ?_)
      simp [wrap_i64 (a := (i : Int) + 1) (by omega)]
      apply hK; clear hK K
      exact ⟨idxS b F - (i + 1), [.int .i64 (i + 1 : Nat)], by omega, by simp, i + 1, rfl, by omega, by omega, rfl, rfl⟩
set_option maxRecDepth 100000 in
theorem rNth_ac (n k i : Int) (H : AH) (Q : AV → AH → Prop) (h : ∀ v' H', Ls H' v' (nthS n k i) → Ext H H' → Q (.tuple [v', .int .i64 (nthE n k i)]) H') : AC Try.prog 21 [.int .i64 n, .int .i64 k, .int .i64 i] H Q := by
  refine L_body 34 Try.func21 rfl rfl ?_
  refine L_reg [0, 1, 2] (fun K hK => ?_)
  simp
  apply hK; clear hK K
  refine L_reg [0, 1, 2, 8, 9] (fun K hK => ?_)
  simp [okFn_low]
  refine rCount_ac n k H _ (fun H1 hE => ?_)
  simp
  apply hK; clear hK K
  unfold nthS at h
  by_cases he : sizeE n k = 0
  · obtain ⟨N, M, rfl, rfl, hK1, hN, -⟩ := size_ok he
    have hT := round_le2 (k := M) hN
    have hfS : fS N M = roundS N M := by simp [fS]
    have hE0 : nthE N M i = if i < 0 ∨ ((roundS N M).length : Int) ≤ i then 2 else 0 := by rw [← hfS]; exact if_pos he
    have hc : countS N M = ((roundS N M).length : Int) := by rw [← hfS]; exact if_pos he
    rw [hfS] at h
    refine L_reg [0, 1, 2, 9, 24] (fun K hK => ?_)
    simp [okFn_low, he, hc, wrap_i64 (a := ((roundS N M).length : Int) - 1) (by omega)]
    refine in_ac i 0 _ _ _ ?_
    simp [pickV]
    apply hK; clear hK K
    by_cases hi : 0 ≤ i ∧ i ≤ ((roundS N M).length : Int) - 1
    · refine L_false (by simp [hi]) ?_
      rw [if_neg (by omega)] at hE0
      rw [hE0, if_pos rfl] at h
      refine L_reg [0, 1, 2, 9, 26] (fun K hK => ?_)
      simp
      apply hK; clear hK K
      refine L_false (by simp) ?_
      obtain ⟨m, rfl⟩ : ∃ m : Nat, i = (m : Int) := ⟨i.toNat, by omega⟩
      have hm : m < (roundS N M).length := by omega
      refine L_reg [6, 7] (fun K0 hK0 => ?_)
      simp [okFn_low]
      refine rround_ac N M hK1 hN H1 _ (fun v' H2 hR hE2 => ?_)
      obtain ⟨r, ver, rfl, hget⟩ := hR.get
      obtain ⟨w, hw1, hw2⟩ := hget m hm
      simp [hm, hw1]
      apply hK0; clear hK0 K0
      exact L_ret ⟨.inr rfl, _, rfl, h _ _ (by simpa [hm] using hw2) (hE.trans hE2)⟩
    · refine L_true (by simp; omega) ?_
      rw [if_pos (by omega)] at hE0
      rw [hE0, if_neg (by decide)] at h
      refine L_reg [0, 1, 2, 9] (fun K hK => ?_)
      simp
      apply hK; clear hK K
      refine L_reg [0, 1, 2, 9, 26] (fun K hK => ?_)
      simp
      apply hK; clear hK K
      refine L_true (by simp) ?_
      refine L_reg [6, 7] (fun K hK => ?_)
      simp
      apply hK; clear hK K
      exact L_ret ⟨.inr rfl, _, rfl, h _ _ (Ls.none H1) hE⟩
  · have hE0 : nthE n k i = sizeE n k := if_neg he
    rw [hE0, if_neg he] at h
    have hb : (sizeE n k == 0) = false := by simpa using he
    refine L_reg [0, 1, 2, 9, 24] (fun K hK => ?_)
    simp [hb, pickV]
    apply hK; clear hK K
    refine L_false (by simp) ?_
    refine L_reg [0, 1, 2, 9, 26] (fun K hK => ?_)
    simp
    apply hK; clear hK K
    refine L_true (by simp [he]) ?_
    refine L_reg [6, 7] (fun K hK => ?_)
    simp
    apply hK; clear hK K
    exact L_ret ⟨.inr rfl, _, rfl, h _ _ (Ls.none H1) hE⟩
theorem rless_ac (u v : AV) (l o : List Int) (H : AH) (Q : AV → AH → Prop) (hl : l.length ≤ 1000000) (ho : o.length ≤ 1000000) (hu : Ls H u l) (hv : Ls H v o) (h : ∀ v' H', OwnF H.length H' v' ((lack l o).map (.int .i64)) → Ext H H' → Q v' H') : AC Try.prog 68 [u, v] H Q := by
  obtain ⟨r, off, ver, sz, full, rfl, hld⟩ := hu
  refine L_body 28 Try.func68 rfl rfl ?_
  refine L_reg [0, 1] (fun K hK => ?_)
  simp
  apply hK; clear hK K
  refine L_reg [0, 1, 5] (fun K hK => ?_)
  simp
  apply hK; clear hK K
  refine L_reg [0, 1, 5, 6] (fun K hK => ?_)
  simp
  apply hK; clear hK K
  refine L_block (L_loopV [5, 6] (fun k vs H' => ∃ (i : Nat) (w : AV), k = l.length - i ∧ i ≤ l.length ∧ OwnF H.length H' w ((lack (l.take i) o).map (.int .i64)) ∧ Ext H H' ∧ vs = [w, .int .i64 i]) _ [.slice none 0 0 0 1 false, .int .i64 (0 : Nat)] rfl ⟨0, _, rfl, by omega, .nil _ _, .refl H, rfl⟩ ?_)
  rintro k _ H1 ⟨i, w, rfl, hi, hO, hE, rfl⟩
  refine L_reg [0, 1, 5, 6, 10] (fun K hK => ?_)
  simp
  apply hK; clear hK K
  refine L_dec (i < l.length) (by simp) (fun hlt => ?_) (fun hge => L_exit ?_)
  · obtain ⟨r', rfl, rfl, hrd⟩ := hld i hlt
    have hrd1 := hE.ld hrd
    refine L_block ?_
    refine L_reg [0, 1, 5, 6, 19] (fun K hK => ?_)
    simp [okFn_low, hlt, hrd1]
    refine has_ac v o l[i] _ _ ho (hv.ext hE) ?_
    simp
    apply hK; clear hK K
    by_cases hm : l[i] ∈ o
    · refine L_false (by simp [hm]) ?_
      refine L_reg [0, 1, 5, 6] (fun K hK => ?_)
      simp [wrap_i64 (a := (i : Int) + 1) (by omega)]
      apply hK; clear hK K
      exact ⟨l.length - (i + 1), [w, .int .i64 (i + 1 : Nat)], by omega, by simp, i + 1, w, rfl, by omega, by rw [lack_take hlt]; simpa [hm] using hO, hE, rfl⟩
    · refine L_true (by simp [hm]) ?_
      have hlk : (lack (l.take i) o).length ≤ i := by
        unfold lack
        exact Nat.le_trans (List.length_filter_le _ _) (by simp; omega)
      obtain ⟨v', H', he, hO', hE'⟩ := ownF_append hE el22 el22 (x := .int .i64 l[i]) (m := 1) hO rfl (by simp; omega)
      refine L_reg [0, 1, 5, 6] (fun K hK => ?_)
      simp [hlt, hrd1, he]
      apply hK; clear hK K
      refine L_reg [0, 1, 5, 6] (fun K hK => ?_)
      simp [wrap_i64 (a := (i : Int) + 1) (by omega)]
      apply hK; clear hK K
      exact ⟨l.length - (i + 1), [v', .int .i64 (i + 1 : Nat)], by omega, by simp, i + 1, v', rfl, by omega, by rw [lack_take hlt]; simpa [hm] using hO', hE', rfl⟩
  · obtain rfl : i = l.length := by omega
    rw [List.take_length] at hO
    refine L_reg [4] (fun K hK => ?_)
    simp
    apply hK; clear hK K
    exact L_ret ⟨.inr rfl, _, rfl, h _ _ hO hE⟩
theorem rless_q (u v : AV) (l o : List Int) (H : AH) (hl : l.length ≤ 1000000) (ho : o.length ≤ 1000000) (hu : Ls H u l) (hv : Ls H v o) (hne : lack l o ≠ []) (Q : AV → AH → Prop)
    (hq : Q (.slice (some H.length) 0 (lack l o).length 0 1 false) (H ++ [.row ((lack l o).map (.int .i64)) 0 (lack l o).length false])) : AC Try.prog 68 [u, v] H Q := by
  refine AC.tidy (l := (lack l o).map (.int .i64)) (by simpa using hne) (belB_ints _ _) (fun Q h => rless_ac u v l o H Q hl ho hu hv h) Q ?_
  simpa using hq
set_option maxRecDepth 100000 in
theorem rNext_ac (n : Int) (v : AV) (b : List Int) (H : AH) (Q : AV → AH → Prop) (hb : b.length ≤ 1000000) (hv : Ls H v b) (h : ∀ v' H', Ls H' v' (nextS n b) → Ext H H' → Q (.tuple [v', .int .i64 (outS n b), .int .i64 (inS n b), .int .i64 (nextE n b)]) H') : AC Try.prog 24 [.int .i64 n, v] H Q := by
  obtain ⟨r0, off0, ver0, sz0, full0, rfl, -⟩ := id hv
  refine L_body 47 Try.func24 rfl rfl ?_
  refine L_reg [0, 1] (fun K hK => ?_)
  simp
  apply hK; clear hK K
  refine L_reg [0, 1, 8, 9] (fun K hK => ?_)
  simp [okFn_low]
  refine rNumber_ac n _ b H _ hb hv (fun H1 hE => ?_)
  simp
  apply hK; clear hK K
  refine L_reg [0, 1, 8, 9, 19] (fun K hK => ?_)
  simp
  apply hK; clear hK K
  refine L_split rfl (fun ht => ?_) (fun hf => ?_)
  · have hne : checkE n b ≠ 0 := by simpa using ht
    have hE0 : nextE n b = checkE n b := if_neg hne
    simp only [outS, inS, nextS, hE0, if_neg hne] at h
    refine L_reg [4, 5, 6, 7] (fun K hK => ?_)
    simp
    apply hK; clear hK K
    exact L_ret ⟨.inr rfl, _, rfl, h _ _ (Ls.none H1) hE⟩
  · have he : checkE n b = 0 := by simpa using hf
    have hE0 : nextE n b = if b.length = 0 ∨ (b.length : Int) = n then 12 else 0 := if_pos he
    have hnum : numS n b = (idxS b (fS n b.length) : Int) := if_pos he
    obtain ⟨N, rfl, hN, -, hok⟩ := check_ok he
    have hT := round_le2 (k := b.length) hN
    have hfS : fS N b.length = roundS N b.length := by simp [fS]
    have hlb := okb_len hok
    have hone := round_one hlb
    rw [hfS] at hnum
    have hbv1 := hv.ext hE
    refine L_reg [1, 8, 10] (fun K hK => ?_)
    simp [okFn_low]
    refine rround_ac N b.length hlb hN H1 _ (fun vF H2 hR hE2 => ?_)
    obtain ⟨r, ver, rfl, hget⟩ := hR.get
    simp
    apply hK; clear hK K
    have hE := hE.trans hE2
    have hbv := hbv1.ext hE2
    by_cases hc : b.length = 0 ∨ (b.length : Int) = N
    · rw [if_pos hc] at hE0
      simp only [outS, inS, nextS, hE0] at h
      have h1 : (roundS N b.length).length = 1 := hone.2 (by omega)
      refine L_reg [1, 8, 10, 27] (fun K hK => ?_)
      simp
      apply hK; clear hK K
      refine L_true (by simp [h1]) ?_
      refine L_reg [4, 5, 6, 7] (fun K hK => ?_)
      simp
      apply hK; clear hK K
      exact L_ret ⟨.inr rfl, _, rfl, h _ _ (Ls.none H2) hE⟩
    · have h0 : b.length ≠ 0 := by omega
      have h1 : b.length ≠ N := by omega
      rw [if_neg hc] at hE0
      obtain ⟨hlt, hne⟩ := next_ne hok h0 h1
      simp only [outS, inS, nextS, hE0, if_true, hfS] at h
      have hi := (idxS_get (okb_mem hok)).1
      have hmem := List.getElem_mem hlt
      have hlen := roundS_len _ _ _ hmem
      have hokn := okb_round hmem
      have hT1 : (roundS N b.length).length ≠ 1 := fun e => by rcases hone.1 e with e | e <;> omega
      refine L_reg [1, 8, 10, 27] (fun K hK => ?_)
      simp
      apply hK; clear hK K
      refine L_false (by simp; omega) ?_
      generalize hF : roundS N b.length = F at *
      rw [List.getElem?_eq_getElem hlt] at h
      simp only [Option.getD_some] at h
      generalize hj : (idxS b F + 1) % F.length = j at *
      have hF0 : F.length ≠ 0 := by omega
      have hmod : ((idxS b F : Int) + 1).tmod (F.length : Int) = (j : Int) := by rw [← hj]; exact (Int.ofNat_tmod (idxS b F + 1) F.length).symm
      obtain ⟨v', hw1, hv1⟩ := hget j hlt
      refine L_reg [1, 11] (fun K hK => ?_)
      simp [hnum, wrap_i64 (a := (idxS b F : Int) + 1) (by omega), hF0, hmod, hlt, hw1]
      apply hK; clear hK K
      have hl1 := lack_ne hok hokn hlen.symm (Ne.symm hne)
      have hl2 := lack_ne hokn hok hlen hne
      generalize hx : F[j] = x at *
      have hp1 : 0 < (lack b x).length := List.length_pos_iff.2 hl1
      have hp2 : 0 < (lack x b).length := List.length_pos_iff.2 hl2
      have e1 := head_ls (H := H2) hl1
      have hE3 : Ext H2 (H2 ++ [AObj.row ((lack b x).map (.int .i64)) 0 (lack b x).length false]) := .push _ _
      have e2 := head_ls (H := H2 ++ [AObj.row ((lack b x).map (.int .i64)) 0 (lack b x).length false]) hl2
      refine L_regX mixed [4, 5, 6, 7] (by kernel_rfl) (fun K hK => ?_)
      simp [okFn_low]
      refine exX_mk (fun Q hQ => rless_q _ v' b x H2 (by omega) (by omega) hbv hv1 hl1 Q hQ) (.push _ _) ?_
      simp [okFn_low, hp1, e1]
      refine exX_mk (fun Q hQ => rless_q v' _ x b _ (by omega) (by omega) (hv1.ext hE3) (hbv.ext hE3) hl2 Q hQ) (.push _ _) ?_
      simp [hp2] at e2 ⊢
      simp [e2]
      apply hK; clear hK K
      exact L_ret ⟨.inr rfl, _, rfl, by simpa using h v' _ (hv1.ext (hE3.trans (.push _ [AObj.row ((lack x b).map (.int .i64)) 0 (lack x b).length false]))) (hE.trans (hE3.trans (.push _ [AObj.row ((lack x b).map (.int .i64)) 0 (lack x b).length false])))⟩
end Go.Proofs.Ytmoifofihafgmaa

/- Away and Way, and the reference's. -/
namespace Go.Proofs.Ytmoifofihafgmaa
open Go Go.Proofs.Ytmoifofihafgmaa.AX

def bothE (n : Int) (a b : List Int) : Int := if checkE n a = 0 then (if checkE n b = 0 then (if a.length = b.length then 0 else 5) else checkE n b) else checkE n a
theorem both_ok {n : Int} {a b : List Int} (h : bothE n a b = 0) : ∃ N : Nat, n = (N : Int) ∧ N ≤ 10 ∧ Okb N a ∧ Okb N b ∧ a.length = b.length := by
  unfold bothE at h
  split at h
  · rename_i h1
    split at h
    · rename_i h2
      split at h
      · rename_i h3
        obtain ⟨N, rfl, hN, -, ha⟩ := check_ok h1
        obtain ⟨M, hM, -, -, hb⟩ := check_ok h2
        obtain rfl : N = M := by omega
        exact ⟨N, rfl, hN, ha, hb, h3⟩
      · cases h
    · contradiction
  · contradiction
theorem checkTwo_ac (n : Int) (u v : AV) (a b : List Int) (H : AH) (Q : AV → AH → Prop) (ha : a.length ≤ 1000000) (hb : b.length ≤ 1000000) (hu : Ls H u a) (hv : Ls H v b) (h : Q (.int .i64 (bothE n a b)) H) : AC Try.prog 70 [.int .i64 n, u, v] H Q := by
  obtain ⟨r0, off0, ver0, sz0, full0, rfl, -⟩ := id hu
  obtain ⟨r1, off1, ver1, sz1, full1, rfl, -⟩ := id hv
  refine L_body 26 Try.func70 rfl rfl ?_
  refine L_reg [0, 1, 2] (fun K hK => ?_)
  simp
  apply hK; clear hK K
  refine L_reg [0, 1, 2, 7] (fun K hK => ?_)
  simp [okFn_low]
  refine Check_ac n _ a _ _ ha hu ?_
  simp
  apply hK; clear hK K
  refine L_reg [0, 1, 2, 7, 13] (fun K hK => ?_)
  simp
  apply hK; clear hK K
  unfold bothE at h
  refine L_split rfl (fun ht => ?_) (fun hf => ?_)
  · have hne : checkE n a ≠ 0 := by simpa using ht
    rw [if_neg hne] at h
    refine L_reg [6] (fun K hK => ?_)
    simp
    apply hK; clear hK K
    exact L_ret ⟨.inr rfl, _, rfl, h⟩
  · have he : checkE n a = 0 := by simpa using hf
    rw [if_pos he] at h
    refine L_reg [1, 2, 8] (fun K hK => ?_)
    simp [okFn_low]
    refine Check_ac n _ b _ _ hb hv ?_
    simp
    apply hK; clear hK K
    refine L_reg [1, 2, 8, 19] (fun K hK => ?_)
    simp
    apply hK; clear hK K
    refine L_split rfl (fun ht => ?_) (fun hf => ?_)
    · have hne : checkE n b ≠ 0 := by simpa using ht
      rw [if_neg hne] at h
      refine L_reg [6] (fun K hK => ?_)
      simp
      apply hK; clear hK K
      exact L_ret ⟨.inr rfl, _, rfl, h⟩
    · have he : checkE n b = 0 := by simpa using hf
      rw [if_pos he] at h
      refine L_reg [25] (fun K hK => ?_)
      simp
      apply hK; clear hK K
      by_cases hl : a.length = b.length
      · refine L_false (by simp [hl]) ?_
        rw [if_pos hl] at h
        refine L_reg [6] (fun K hK => ?_)
        simp
        apply hK; clear hK K
        exact L_ret ⟨.inr rfl, _, rfl, h⟩
      · refine L_true (by simp; omega) ?_
        rw [if_neg hl] at h
        refine L_reg [6] (fun K hK => ?_)
        simp
        apply hK; clear hK K
        exact L_ret ⟨.inr rfl, _, rfl, h⟩
theorem both_ac (n : Int) (u v : AV) (a b : List Int) (H : AH) (Q : AV → AH → Prop) (ha : a.length ≤ 1000000) (hb : b.length ≤ 1000000) (hu : Ls H u a) (hv : Ls H v b) (h : Q (.int .i64 (bothE n a b)) H) : AC Try.prog 72 [.int .i64 n, u, v] H Q := by
  obtain ⟨r0, off0, ver0, sz0, full0, rfl, -⟩ := id hu
  obtain ⟨r1, off1, ver1, sz1, full1, rfl, -⟩ := id hv
  refine L_body 26 Try.func72 rfl rfl ?_
  refine L_reg [0, 1, 2] (fun K hK => ?_)
  simp
  apply hK; clear hK K
  refine L_reg [0, 1, 2, 7] (fun K hK => ?_)
  simp [okFn_low]
  refine rCheck_ac n _ a _ _ ha hu ?_
  simp
  apply hK; clear hK K
  refine L_reg [0, 1, 2, 7, 12] (fun K hK => ?_)
  simp
  apply hK; clear hK K
  unfold bothE at h
  refine L_split rfl (fun ht => ?_) (fun hf => ?_)
  · have he : checkE n a = 0 := by simpa using ht
    rw [if_pos he] at h
    refine L_reg [1, 2, 7] (fun K hK => ?_)
    simp [okFn_low]
    refine rCheck_ac n _ b _ _ hb hv ?_
    simp
    apply hK; clear hK K
    by_cases he2 : checkE n b = 0
    · rw [if_pos he2] at h
      refine L_reg [7, 24] (fun K hK => ?_)
      simp [he2, pickV]
      apply hK; clear hK K
      by_cases hl : a.length = b.length
      · refine L_false (by simp [hl]) ?_
        rw [if_pos hl] at h
        refine L_reg [6] (fun K hK => ?_)
        simp
        apply hK; clear hK K
        exact L_ret ⟨.inr rfl, _, rfl, h⟩
      · refine L_true (by simp; omega) ?_
        rw [if_neg hl] at h
        refine L_reg [7] (fun K hK => ?_)
        simp
        apply hK; clear hK K
        refine L_reg [6] (fun K hK => ?_)
        simp
        apply hK; clear hK K
        exact L_ret ⟨.inr rfl, _, rfl, h⟩
    · rw [if_neg he2] at h
      refine L_reg [7, 24] (fun K hK => ?_)
      simp [show (checkE n b == 0) = false by simpa using he2, pickV]
      apply hK; clear hK K
      refine L_false (by simp) ?_
      refine L_reg [6] (fun K hK => ?_)
      simp
      apply hK; clear hK K
      exact L_ret ⟨.inr rfl, _, rfl, h⟩
  · have he : checkE n a ≠ 0 := by simpa using hf
    rw [if_neg he] at h
    refine L_reg [7, 24] (fun K hK => ?_)
    simp [show (checkE n a == 0) = false by simpa using he, pickV]
    apply hK; clear hK K
    refine L_false (by simp) ?_
    refine L_reg [6] (fun K hK => ?_)
    simp
    apply hK; clear hK K
    exact L_ret ⟨.inr rfl, _, rfl, h⟩
theorem ownG_ls {N : Nat} {H : AH} {v : AV} {l : List Int} (h : OwnG N H v l) : Ls H v l := by
  rcases h with h | h
  · exact ownF_ls h
  · exact h.ls
theorem distance_ac (u v : AV) (a b : List Int) (H : AH) (Q : AV → AH → Prop) (ha : a.length ≤ 1000000) (hb : b.length ≤ 1000000) (hu : Ls H u a) (hv : Ls H v b) (h : ∀ H', Ext H H' → Q (.int .i64 (lack a b).length) H') : AC Try.prog 71 [u, v] H Q := by
  refine L_body 9 Try.func71 rfl rfl ?_
  refine L_reg [0, 1] (fun K hK => ?_)
  simp
  apply hK; clear hK K
  refine L_reg [4] (fun K hK => ?_)
  simp [okFn_low]
  refine lacking_ac u v a b H _ ha hb hu hv (fun w H1 hO hE => ?_)
  obtain ⟨r0, off0, ver0, sz0, full0, rfl, -⟩ := ownG_ls hO
  simp
  apply hK; clear hK K
  exact L_ret ⟨.inr rfl, _, rfl, h _ hE⟩
def awayS (n : Int) (a b : List Int) : Int := if bothE n a b = 0 then ((lack a b).length : Int) else 0
theorem Away_ac (n : Int) (u v : AV) (a b : List Int) (H : AH) (Q : AV → AH → Prop) (ha : a.length ≤ 1000000) (hb : b.length ≤ 1000000) (hu : Ls H u a) (hv : Ls H v b) (h : ∀ H', Ext H H' → Q (.tuple [.int .i64 (awayS n a b), .int .i64 (bothE n a b)]) H') : AC Try.prog 27 [.int .i64 n, u, v] H Q := by
  refine L_body 19 Try.func27 rfl rfl ?_
  refine L_reg [0, 1, 2] (fun K hK => ?_)
  simp
  apply hK; clear hK K
  refine L_reg [1, 2, 8] (fun K hK => ?_)
  simp [okFn_low]
  refine checkTwo_ac n u v a b _ _ ha hb hu hv ?_
  simp
  apply hK; clear hK K
  refine L_reg [1, 2, 8, 14] (fun K hK => ?_)
  simp
  apply hK; clear hK K
  unfold awayS at h
  refine L_split rfl (fun ht => ?_) (fun hf => ?_)
  · have hne : bothE n a b ≠ 0 := by simpa using ht
    rw [if_neg hne] at h
    refine L_reg [6, 7] (fun K hK => ?_)
    simp
    apply hK; clear hK K
    exact L_ret ⟨.inr rfl, _, rfl, h _ (.refl H)⟩
  · have he : bothE n a b = 0 := by simpa using hf
    rw [if_pos he, he] at h
    refine L_reg [6, 7] (fun K hK => ?_)
    simp [okFn_low]
    refine distance_ac u v a b H _ ha hb hu hv (fun H1 hE => ?_)
    simp
    apply hK; clear hK K
    exact L_ret ⟨.inr rfl, _, rfl, h _ hE⟩
theorem rAway_ac (n : Int) (u v : AV) (a b : List Int) (H : AH) (Q : AV → AH → Prop) (ha : a.length ≤ 1000000) (hb : b.length ≤ 1000000) (hu : Ls H u a) (hv : Ls H v b) (h : ∀ H', Ext H H' → Q (.tuple [.int .i64 (awayS n a b), .int .i64 (bothE n a b)]) H') : AC Try.prog 28 [.int .i64 n, u, v] H Q := by
  refine L_body 20 Try.func28 rfl rfl ?_
  refine L_reg [0, 1, 2] (fun K hK => ?_)
  simp
  apply hK; clear hK K
  refine L_reg [1, 2, 8] (fun K hK => ?_)
  simp [okFn_low]
  refine both_ac n u v a b _ _ ha hb hu hv ?_
  simp
  apply hK; clear hK K
  refine L_reg [1, 2, 8, 14] (fun K hK => ?_)
  simp
  apply hK; clear hK K
  unfold awayS at h
  refine L_split rfl (fun ht => ?_) (fun hf => ?_)
  · have hne : bothE n a b ≠ 0 := by simpa using ht
    rw [if_neg hne] at h
    refine L_reg [6, 7] (fun K hK => ?_)
    simp
    apply hK; clear hK K
    exact L_ret ⟨.inr rfl, _, rfl, h _ (.refl H)⟩
  · have he : bothE n a b = 0 := by simpa using hf
    rw [if_pos he, he] at h
    refine L_reg [6, 7] (fun K hK => ?_)
    simp [okFn_low]
    refine rless_ac u v a b H _ ha hb hu hv (fun w H1 hO hE => ?_)
    obtain ⟨r0, off0, ver0, sz0, full0, rfl, -⟩ := ownF_ls hO
    simp
    apply hK; clear hK K
    exact L_ret ⟨.inr rfl, _, rfl, h _ hE⟩

/-- A list that lies in rows other than one. -/
def LsX (r : Nat) (H : AH) (v : AV) (l : List Int) : Prop := ∃ rr off ver sz full, v = .slice rr off l.length ver sz full ∧ ∀ i (h : i < l.length), ∃ r', rr = some r' ∧ sz = 1 ∧ r' ≠ r ∧ ld H r' (off + i) ver = some (.int .i64 l[i])
theorem LsX.ls {r : Nat} {H : AH} {v : AV} {l : List Int} (h : LsX r H v l) : Ls H v l := by
  obtain ⟨rr, off, ver, sz, full, h1, h2⟩ := h
  exact ⟨rr, off, ver, sz, full, h1, fun i hi => by obtain ⟨r', a, b, -, c⟩ := h2 i hi; exact ⟨r', a, b, c⟩⟩
theorem ld_same {H H' : AH} {r p ver : Nat} (h : H'[r]? = H[r]?) : ld H' r p ver = ld H r p ver := by unfold ld; rw [h]
theorem LsX.keep {r : Nat} {H H' : AH} {v : AV} {l : List Int} (h : LsX r H v l) (hK : KeepX r H H') : LsX r H' v l := by
  obtain ⟨rr, off, ver, sz, full, h1, h2⟩ := h
  refine ⟨rr, off, ver, sz, full, h1, fun i hi => ?_⟩
  obtain ⟨r', a, b, c, d⟩ := h2 i hi
  exact ⟨r', a, b, c, by rw [ld_same (hK.2 r' c (ld_lt d))]; exact d⟩
theorem Ls.below {r : Nat} {H : AH} {v : AV} {l : List Int} (h : Ls H v l) (hr : H.length ≤ r) : LsX r H v l := by
  obtain ⟨rr, off, ver, sz, full, h1, h2⟩ := h
  refine ⟨rr, off, ver, sz, full, h1, fun i hi => ?_⟩
  obtain ⟨r', a, b, d⟩ := h2 i hi
  exact ⟨r', a, b, by have := ld_lt d; omega, d⟩
theorem LsX.ext {r : Nat} {H H' : AH} {v : AV} {l : List Int} (h : LsX r H v l) (hE : Ext H H') : LsX r H' v l := h.keep ((KeepX.refl r H).ext hE)
theorem LsX.row {r r' ver s : Nat} {H : AH} {l : List Int} (hr : H[r']? = some (.row (l.map (.int .i64)) ver s false)) (hne : r' ≠ r) : LsX r H (.slice (some r') 0 l.length ver 1 false) l := by
  refine ⟨some r', 0, ver, 1, false, rfl, fun i hi => ⟨r', rfl, rfl, hne, ?_⟩⟩
  rw [ld_row hr]; simp [hi]
theorem ownG_X {N r : Nat} {H : AH} {v : AV} {l : List Int} (h : OwnG N H v l) (hr : r < N) : LsX r H v l := by
  rcases h with (⟨h1, rfl⟩ | ⟨r', ver, stale, h1, rfl, h3⟩) | ⟨r', ver, stale, tl, h1, rfl, h3, -⟩
  · obtain rfl : l = [] := by simpa using h1
    exact ⟨none, 0, 0, 1, false, rfl, fun i hi => by simp at hi⟩
  · have := LsX.row (r := r) h3 (by omega)
    simpa using this
  · refine ⟨some r', 0, ver, 1, false, by simp, fun i hi => ⟨r', rfl, rfl, by omega, ?_⟩⟩
    rw [ld_row h3, Nat.zero_add, List.getElem?_append_left (by simpa using hi)]
    simp [hi]
/-- Lists in a row. -/
def Lss (H : AH) (v : AV) (l : List (List Int)) : Prop := ∃ r off ver sz full, v = .slice r off l.length ver sz full ∧ ∀ i (hi : i < l.length), ∃ r' w, r = some r' ∧ sz = 1 ∧ ld H r' (off + i) ver = some w ∧ Ls H w l[i]
theorem Lss.ext {H H' : AH} {v : AV} {l : List (List Int)} (h : Lss H v l) (hE : Ext H H') : Lss H' v l := by
  obtain ⟨r, off, ver, sz, full, h1, h2⟩ := h
  refine ⟨r, off, ver, sz, full, h1, fun i hi => ?_⟩
  obtain ⟨r', w, a, b, c, d⟩ := h2 i hi
  exact ⟨r', w, a, b, hE.ld c, d.ext hE⟩
theorem Lss.nil (H : AH) : Lss H (.slice none 0 0 0 1 false) [] := ⟨none, 0, 0, 1, false, rfl, fun i h => by simp at h⟩
theorem Rnd.lss {N : Nat} {H : AH} {v : AV} {l : List (List Int)} (h : Rnd N H v l) : Lss H v l := by
  obtain ⟨r, ver, rfl, hg⟩ := h.get
  refine ⟨some r, 0, ver, 1, false, rfl, fun i hi => ?_⟩
  obtain ⟨w, a, b⟩ := hg i hi
  exact ⟨r, w, rfl, rfl, by simpa using a, b⟩
set_option maxRecDepth 100000 in
theorem lists_ac (u v : AV) (l m : List (List Int)) (H : AH) (Q : AV → AH → Prop) (hl : l.length ≤ 1000000) (hls : ∀ x ∈ l, x.length ≤ 1000000) (hu : Lss H u l) (hv : Lss H v m) (h : Q (.bool (decide (l = m))) H) : AC Try.prog 31 [u, v] H Q := by
  obtain ⟨r, off, ver, sz, full, rfl, hld⟩ := hu
  obtain ⟨r2, off2, ver2, sz2, full2, rfl, hld2⟩ := hv
  refine L_body 27 Try.func31 rfl rfl ?_
  refine L_reg [0, 1] (fun K hK => ?_)
  simp
  apply hK; clear hK K
  refine L_reg [0, 1, 10] (fun K hK => ?_)
  simp
  apply hK; clear hK K
  by_cases hlen : l.length = m.length
  case neg =>
    refine L_true (by simp; omega) ?_
    refine L_reg [4] (fun K hK => ?_)
    simp
    apply hK; clear hK K
    have : l ≠ m := fun e => hlen (by rw [e])
    rw [decide_eq_false this] at h
    exact L_ret ⟨.inr rfl, _, rfl, h⟩
  refine L_false (by simp [hlen]) ?_
  refine L_reg [0, 1, 5] (fun K hK => ?_)
  simp
  apply hK; clear hK K
  refine L_block (L_loopV [5] (fun k vs H' => ∃ (i : Nat), k = l.length - i ∧ i ≤ l.length ∧ (l.drop i = m.drop i → l = m) ∧ vs = [.int .i64 i] ∧ H = H') _ [.int .i64 (0 : Nat)] rfl ⟨0, rfl, by omega, by simp, rfl, rfl⟩ ?_)
  rintro k _ _ ⟨i, rfl, hi, hs, rfl, rfl⟩
  refine L_reg [0, 1, 5, 14] (fun K hK => ?_)
  simp
  apply hK; clear hK K
  refine L_dec (i < l.length) (by simp) (fun hlt => ?_) (fun hge => L_exit ?_)
  · obtain ⟨r', w, rfl, rfl, hrd, hw⟩ := hld i hlt
    obtain ⟨r3, w2, rfl, rfl, hrd2, hw2⟩ := hld2 i (by omega)
    rw [List.drop_eq_getElem_cons hlt, List.drop_eq_getElem_cons (by omega : i < m.length)] at hs
    have hle := hls _ (List.getElem_mem hlt)
    refine L_block ?_
    refine L_regT mixed [0, 1, 5, 26] (by kernel_rfl) (fun K hK => ?_)
    simp [okFn_low, hlt, ← hlen, hrd, hrd2]
    refine exC_mk (fun Q hQ => same_ac w w2 l[i] m[i] H Q (by omega) hw hw2 hQ) ?_
    simp
    apply hK; clear hK K
    by_cases he : l[i] = m[i]
    · refine L_false (by simp [he]) ?_
      rw [he] at hs
      refine L_reg [0, 1, 5] (fun K hK => ?_)
      simp [wrap_i64 (a := (i : Int) + 1) (by omega)]
      apply hK; clear hK K
      exact ⟨l.length - (i + 1), [.int .i64 (i + 1 : Nat)], by omega, by simp [hlen], i + 1, rfl, by omega, fun e => hs (by rw [e]), rfl, rfl⟩
    · refine L_true (by simp [he]) ?_
      refine L_reg [4] (fun K hK => ?_)
      simp
      apply hK; clear hK K
      have : l ≠ m := fun e => he (by subst e; rfl)
      rw [decide_eq_false this] at h
      exact L_ret ⟨.inr rfl, _, rfl, h⟩
  · refine L_reg [4] (fun K hK => ?_)
    simp
    apply hK; clear hK K
    have : l = m := hs (by rw [List.drop_eq_nil_of_le (by omega), List.drop_eq_nil_of_le (by omega)])
    rw [decide_eq_true this] at h
    exact L_ret ⟨.inr rfl, _, rfl, h⟩
theorem row37_2 (H : AH) {x y : AV} (hx : x.one = true) (hy : y.one = true) (hc : acells x = [x]) (hd : acells y = [y]) : rowV Try.prog 37 2 [(0, x), (1, y)] H = some (some (.slice (some H.length) 0 2 0 1 false), H ++ [.row [x, y] 0 2 false]) := by
  obtain ⟨e, I, h1, h2, h3, h4, hzz⟩ := elT_some el37
  have hu : x.isU = false := by cases x <;> simp_all [AV.one, AV.isU]
  have hw : y.isU = false := by cases y <;> simp_all [AV.one, AV.isU]
  simp [rowV, h1, h2, h3, aFill, hu, hw, hc, hd, hzz, List.range_succ]
/-- What is asked of lists. -/
theorem larges_ac (ls : List (List Int)) (v : AV) (H : AH) (Q : AV → AH → Prop) (hl : ls.length ≤ 1000000) (hv : Lss H v ls) (h : Q (.bool (ls.any fun l => decide (60 < l.length))) H) : AC Try.prog 14 [v] H Q := by
  obtain ⟨r, off, ver, sz, full, rfl, hld⟩ := hv
  refine L_body 16 Try.func14 rfl rfl ?_
  refine L_reg [0] (fun K hK => ?_)
  simp
  apply hK; clear hK K
  refine L_reg [0, 3] (fun K hK => ?_)
  simp
  apply hK; clear hK K
  refine L_block (L_loopV [3] (fun k vs H' => ∃ i : Nat, k = ls.length - i ∧ i ≤ ls.length ∧ ls.any (fun l => decide (60 < l.length)) = (ls.drop i).any (fun l => decide (60 < l.length)) ∧ vs = [.int .i64 i] ∧ H = H') _ [.int .i64 (0 : Nat)] rfl ⟨0, rfl, by omega, rfl, rfl, rfl⟩ ?_)
  rintro k _ _ ⟨i, rfl, hi, hx, rfl, rfl⟩
  refine L_reg [0, 3, 7] (fun K hK => ?_)
  simp
  apply hK; clear hK K
  refine L_dec (i < ls.length) (by simp) (fun hlt => ?_) (fun hge => L_exit ?_)
  · obtain ⟨r', w, rfl, rfl, hrd, hw⟩ := hld i hlt
    obtain ⟨rw0, ow, vw, zw, fw, hww, -⟩ := hw
    rw [hww] at hrd
    rw [List.drop_eq_getElem_cons hlt, List.any_cons] at hx
    refine L_block ?_
    refine L_reg [0, 3, 15] (fun K hK => ?_)
    simp [hlt, hrd]
    apply hK; clear hK K
    refine L_dec ((60 : Int) < ls[i].length) (by simp) (fun h1 => ?_) (fun h1 => ?_)
    · rw [decide_eq_true (by omega : 60 < ls[i].length), Bool.true_or] at hx
      rw [hx] at h
      refine L_reg [2] (fun K hK => ?_)
      simp
      apply hK; clear hK K
      exact L_ret ⟨.inr rfl, _, rfl, h⟩
    · rw [decide_eq_false (by omega : ¬ 60 < ls[i].length), Bool.false_or] at hx
      refine L_reg [0, 3] (fun K hK => ?_)
      simp [wrap_i64 (a := (i : Int) + 1) (by omega)]
      apply hK; clear hK K
      exact ⟨ls.length - (i + 1), [.int .i64 (i + 1 : Nat)], by omega, by simp, i + 1, rfl, by omega, hx, rfl, rfl⟩
  · obtain rfl : i = ls.length := by omega
    rw [List.drop_length, List.any_nil] at hx
    rw [hx] at h
    refine L_reg [2] (fun K hK => ?_)
    simp
    apply hK; clear hK K
    exact L_ret ⟨.inr rfl, _, rfl, h⟩
end Go.Proofs.Ytmoifofihafgmaa

/- Recipes: checked, weighed. -/
namespace Go.Proofs.Ytmoifofihafgmaa
open Go Go.Proofs.Ytmoifofihafgmaa.AX

theorem ag43 : aggSz Try.prog 43 = some 3 := by kernel_rfl
theorem ag44 : aggSz Try.prog 44 = some 3 := by kernel_rfl
@[simp] theorem ld43 (H : AH) (r off ver : Nat) : loadV Try.prog 43 H (.ptr r off ver) = (ldn H r ver 3 off).map .agg := load_agg ag43 ..
@[simp] theorem ld44 (H : AH) (r off ver : Nat) : loadV Try.prog 44 H (.ptr r off ver) = (ldn H r ver 3 off).map .agg := load_agg ag44 ..
@[simp] theorem fa430 (r off ver : Nat) : aFieldAddr Try.prog 43 (.ptr r off ver) 0 = some (.ptr r (off + 0) ver) := fld_ptr (by kernel_rfl) ..
@[simp] theorem fa431 (r off ver : Nat) : aFieldAddr Try.prog 43 (.ptr r off ver) 1 = some (.ptr r (off + 1) ver) := fld_ptr (by kernel_rfl) ..
@[simp] theorem fa432 (r off ver : Nat) : aFieldAddr Try.prog 43 (.ptr r off ver) 2 = some (.ptr r (off + 2) ver) := fld_ptr (by kernel_rfl) ..
@[simp] theorem fa440 (r off ver : Nat) : aFieldAddr Try.prog 44 (.ptr r off ver) 0 = some (.ptr r (off + 0) ver) := fld_ptr (by kernel_rfl) ..
@[simp] theorem fa441 (r off ver : Nat) : aFieldAddr Try.prog 44 (.ptr r off ver) 1 = some (.ptr r (off + 1) ver) := fld_ptr (by kernel_rfl) ..
@[simp] theorem fa442 (r off ver : Nat) : aFieldAddr Try.prog 44 (.ptr r off ver) 2 = some (.ptr r (off + 2) ver) := fld_ptr (by kernel_rfl) ..

/-- A recipe that lies in a row of its own. -/
def RecRow (H : AH) (q : Nat) (v : AV) (lo hi : Int) : Prop := ∃ s, H[q]? = some (.row [v, .int .i64 lo, .int .i64 hi] 0 s false)
theorem RecRow.lds {H : AH} {q : Nat} {r : Option Nat} {off len ver sz : Nat} {full : Bool} {lo hi : Int} (h : RecRow H q (.slice r off len ver sz full) lo hi) :
    ld H q 0 0 = some (.slice r off len ver sz full) ∧ ld H q 1 0 = some (.int .i64 lo) ∧ ld H q 2 0 = some (.int .i64 hi) ∧ ldn H q 0 3 0 = some [.slice r off len ver sz full, .int .i64 lo, .int .i64 hi] := by
  obtain ⟨s, h⟩ := h
  exact ⟨by rw [ld_row h]; rfl, by rw [ld_row h]; rfl, by rw [ld_row h]; rfl, by rw [ldn_row h]; rfl⟩
theorem RecRow.ext {H H' : AH} {q : Nat} {v : AV} {lo hi : Int} (h : RecRow H q v lo hi) (hE : Ext H H') : RecRow H' q v lo hi := by
  obtain ⟨s, h⟩ := h; exact ⟨s, hE.row h⟩
theorem RecRow.new (H : AH) (v : AV) (lo hi : Int) (s : Nat) : RecRow (H ++ [.row [v, .int .i64 lo, .int .i64 hi] 0 s false]) H.length v lo hi := ⟨s, by simp⟩

def badS (w : Int) : Bool := decide (w < 0 ∨ 50 < w)
def recE (ws : List Int) (lo hi : Int) : Int := if ws.length = 0 then 4 else if 10 < ws.length then 3 else if ws.any badS = true then 1 else if hi < lo then 7 else 0
theorem any_drop {ws : List Int} {i : Nat} (hi : i < ws.length) : (ws.drop i).any badS = (badS ws[i] || (ws.drop (i + 1)).any badS) := by
  rw [List.drop_eq_getElem_cons hi, List.any_cons]
set_option maxRecDepth 100000 in
theorem CheckRecipe_ac (v : AV) (ws : List Int) (lo hi : Int) (H : AH) (Q : AV → AH → Prop) (hl : ws.length ≤ 1000000) (hv : Ls H v ws) (h : ∀ H', Ext H H' → Q (.int .i64 (recE ws lo hi)) H') : AC Try.prog 36 [.agg [v, .int .i64 lo, .int .i64 hi]] H Q := by
  obtain ⟨r, off, ver, sz, full, rfl, -⟩ := id hv
  refine L_body 32 Try.func36 rfl rfl ?_
  refine L_reg [1] (fun K hK => ?_)
  simp [AV.isU, acells]
  apply hK; clear hK K
  have hE := Ext.push H [AObj.row [.slice r off ws.length ver sz full, .int .i64 lo, .int .i64 hi] 0 0 false]
  obtain ⟨d0, d1, d2, -⟩ := (RecRow.new H (.slice r off ws.length ver sz full) lo hi 0).lds
  have hv := hv.ext hE
  generalize H ++ [AObj.row [.slice r off ws.length ver sz full, .int .i64 lo, .int .i64 hi] 0 0 false] = H0 at *
  generalize H.length = q at *
  unfold recE at h
  refine L_reg [1, 8] (fun K hK => ?_)
  simp [d0]
  apply hK; clear hK K
  refine L_dec ((ws.length : Int) = 0) rfl (fun h1 => ?_) (fun h1 => ?_)
  · rw [if_pos (by omega)] at h
    refine L_reg [2] (fun K hK => ?_)
    simp
    apply hK; clear hK K
    exact L_ret ⟨.inr rfl, _, rfl, h _ hE⟩
  rw [if_neg (by omega)] at h
  refine L_reg [1, 12] (fun K hK => ?_)
  simp [d0]
  apply hK; clear hK K
  refine L_dec ((10 : Int) < ws.length) rfl (fun h2 => ?_) (fun h2 => ?_)
  · rw [if_pos (by omega)] at h
    refine L_reg [2] (fun K hK => ?_)
    simp
    apply hK; clear hK K
    exact L_ret ⟨.inr rfl, _, rfl, h _ hE⟩
  rw [if_neg (by omega)] at h
  refine L_reg [1, 14, 15, 16] (fun K hK => ?_)
  simp [d0]
  apply hK; clear hK K
  obtain ⟨r2, off2, ver2, sz2, full2, hve, hld⟩ := hv
  refine L_block (L_loopV [16] (fun k vs H' => ∃ i : Nat, k = ws.length - i ∧ i ≤ ws.length ∧ ws.any badS = (ws.drop i).any badS ∧ vs = [.int .i64 i] ∧ H0 = H') _ [.int .i64 (0 : Nat)] rfl ⟨0, rfl, by omega, rfl, rfl, rfl⟩ ?_)
  rintro k _ _ ⟨i, rfl, hi', hx, rfl, rfl⟩
  refine L_reg [1, 14, 15, 16, 17] (fun K hK => ?_)
  simp
  apply hK; clear hK K
  refine L_dec (i < ws.length) (by simp) (fun hlt => ?_) (fun hge => L_exit ?_)
  · obtain ⟨r', e1, rfl, hrd⟩ := hld i hlt
    cases hve
    subst e1
    rw [any_drop hlt] at hx
    refine L_block ?_
    refine L_reg [1, 4, 14, 15, 16] (fun K hK => ?_)
    simp [hlt, hrd]
    apply hK; clear hK K
    generalize ws[i] = w at hx
    by_cases h3 : w < 0
    · refine L_reg [1, 14, 15, 16, 25] (fun K hK => ?_)
      simp [pickV, h3]
      apply hK; clear hK K
      refine L_true (by simp) ?_
      have hb : badS w = true := by simp [badS, h3]
      rw [if_pos (by rw [hx, hb]; rfl)] at h
      refine L_reg [2] (fun K hK => ?_)
      simp
      apply hK; clear hK K
      exact L_ret ⟨.inr rfl, _, rfl, h _ hE⟩
    · refine L_reg [1, 14, 15, 16, 25] (fun K hK => ?_)
      simp [pickV, h3]
      apply hK; clear hK K
      refine L_dec ((50 : Int) < w) (by simp) (fun h4 => ?_) (fun h4 => ?_)
      · have hb : badS w = true := by simp [badS, h4]
        rw [if_pos (by rw [hx, hb]; rfl)] at h
        refine L_reg [2] (fun K hK => ?_)
        simp
        apply hK; clear hK K
        exact L_ret ⟨.inr rfl, _, rfl, h _ hE⟩
      · have hb : badS w = false := by simp [badS]; omega
        rw [hb, Bool.false_or] at hx
        refine L_reg [1, 14, 15, 16] (fun K hK => ?_)
        simp [wrap_i64 (a := (i : Int) + 1) (by omega)]
        apply hK; clear hK K
        exact ⟨ws.length - (i + 1), [.int .i64 (i + 1 : Nat)], by omega, by simp, i + 1, rfl, by omega, hx, rfl, rfl⟩
  · rw [List.drop_eq_nil_of_le (by omega), List.any_nil] at hx
    rw [if_neg (by rw [hx]; decide)] at h
    refine L_reg [31] (fun K hK => ?_)
    simp [d1, d2]
    apply hK; clear hK K
    refine L_dec (hi < lo) rfl (fun h5 => ?_) (fun h5 => ?_)
    · rw [if_pos h5] at h
      refine L_reg [2] (fun K hK => ?_)
      simp
      apply hK; clear hK K
      exact L_ret ⟨.inr rfl, _, rfl, h _ hE⟩
    · rw [if_neg h5] at h
      refine L_reg [2] (fun K hK => ?_)
      simp
      apply hK; clear hK K
      exact L_ret ⟨.inr rfl, _, rfl, h _ hE⟩
set_option maxRecDepth 100000 in
theorem rCheckRecipe_ac (v : AV) (ws : List Int) (lo hi : Int) (H : AH) (Q : AV → AH → Prop) (hl : ws.length ≤ 1000000) (hv : Ls H v ws) (h : ∀ H', Ext H H' → Q (.int .i64 (recE ws lo hi)) H') : AC Try.prog 37 [.agg [v, .int .i64 lo, .int .i64 hi]] H Q := by
  obtain ⟨r, off, ver, sz, full, rfl, -⟩ := id hv
  refine L_body 31 Try.func37 rfl rfl ?_
  refine L_reg [1] (fun K hK => ?_)
  simp [AV.isU, acells]
  apply hK; clear hK K
  have hE := Ext.push H [AObj.row [.slice r off ws.length ver sz full, .int .i64 lo, .int .i64 hi] 0 0 false]
  obtain ⟨d0, d1, d2, -⟩ := (RecRow.new H (.slice r off ws.length ver sz full) lo hi 0).lds
  have hv := hv.ext hE
  generalize H ++ [AObj.row [.slice r off ws.length ver sz full, .int .i64 lo, .int .i64 hi] 0 0 false] = H0 at *
  generalize H.length = q at *
  unfold recE at h
  refine L_reg [1, 7] (fun K hK => ?_)
  simp [d0]
  apply hK; clear hK K
  refine L_dec ((ws.length : Int) = 0) rfl (fun h1 => ?_) (fun h1 => ?_)
  · rw [if_pos (by omega)] at h
    refine L_reg [2] (fun K hK => ?_)
    simp
    apply hK; clear hK K
    exact L_ret ⟨.inr rfl, _, rfl, h _ hE⟩
  rw [if_neg (by omega)] at h
  refine L_reg [1, 11] (fun K hK => ?_)
  simp [d0]
  apply hK; clear hK K
  refine L_dec ((10 : Int) < ws.length) rfl (fun h2 => ?_) (fun h2 => ?_)
  · rw [if_pos (by omega)] at h
    refine L_reg [2] (fun K hK => ?_)
    simp
    apply hK; clear hK K
    exact L_ret ⟨.inr rfl, _, rfl, h _ hE⟩
  rw [if_neg (by omega)] at h
  refine L_reg [1, 3] (fun K hK => ?_)
  simp
  apply hK; clear hK K
  obtain ⟨r2, off2, ver2, sz2, full2, hve, hld⟩ := hv
  refine L_block (L_loopV [3] (fun k vs H' => ∃ i : Nat, k = ws.length - i ∧ i ≤ ws.length ∧ ws.any badS = (ws.drop i).any badS ∧ vs = [.int .i64 i] ∧ H0 = H') _ [.int .i64 (0 : Nat)] rfl ⟨0, rfl, by omega, rfl, rfl, rfl⟩ ?_)
  rintro k _ _ ⟨i, rfl, hi', hx, rfl, rfl⟩
  refine L_reg [1, 3, 16] (fun K hK => ?_)
  simp [d0]
  apply hK; clear hK K
  refine L_dec (i < ws.length) (by simp) (fun hlt => ?_) (fun hge => L_exit ?_)
  · obtain ⟨r', e1, rfl, hrd⟩ := hld i hlt
    cases hve
    subst e1
    rw [any_drop hlt] at hx
    refine L_block ?_
    refine L_reg [1, 3, 25] (fun K hK => ?_)
    simp [okFn_low, d0, hlt, hrd]
    refine in_ac _ 0 50 _ _ ?_
    simp
    apply hK; clear hK K
    generalize ws[i] = w at hx ⊢
    by_cases h3 : 0 ≤ w ∧ w ≤ 50
    · refine L_false (by simp [h3]) ?_
      have hb : badS w = false := by simp [badS]; omega
      rw [hb, Bool.false_or] at hx
      refine L_reg [1, 3] (fun K hK => ?_)
      simp [wrap_i64 (a := (i : Int) + 1) (by omega)]
      apply hK; clear hK K
      exact ⟨ws.length - (i + 1), [.int .i64 (i + 1 : Nat)], by omega, by simp, i + 1, rfl, by omega, hx, rfl, rfl⟩
    · refine L_true (by simp; omega) ?_
      have hb : badS w = true := by simp [badS]; omega
      rw [if_pos (by rw [hx, hb]; rfl)] at h
      refine L_reg [2] (fun K hK => ?_)
      simp
      apply hK; clear hK K
      exact L_ret ⟨.inr rfl, _, rfl, h _ hE⟩
  · rw [List.drop_eq_nil_of_le (by omega), List.any_nil] at hx
    rw [if_neg (by rw [hx]; decide)] at h
    refine L_reg [30] (fun K hK => ?_)
    simp [d1, d2]
    apply hK; clear hK K
    refine L_dec (hi < lo) rfl (fun h5 => ?_) (fun h5 => ?_)
    · rw [if_pos h5] at h
      refine L_reg [2] (fun K hK => ?_)
      simp
      apply hK; clear hK K
      exact L_ret ⟨.inr rfl, _, rfl, h _ hE⟩
    · rw [if_neg h5] at h
      refine L_reg [2] (fun K hK => ?_)
      simp
      apply hK; clear hK K
      exact L_ret ⟨.inr rfl, _, rfl, h _ hE⟩
def weighS (ws : List Int) : List Int → Int
  | [] => 0
  | x :: l => (ws[x.toNat]?).getD 0 + weighS ws l
/-- Weights, and leaves that have one. -/
def Fine (ws b : List Int) : Prop := (∀ w ∈ ws, 0 ≤ w ∧ w ≤ 50) ∧ (∀ x ∈ b, 0 ≤ x ∧ x < (ws.length : Int)) ∧ b.length ≤ 10 ∧ ws.length ≤ 10
theorem weighS_bound {ws : List Int} (hw : ∀ w ∈ ws, 0 ≤ w ∧ w ≤ 50) : ∀ l : List Int, 0 ≤ weighS ws l ∧ weighS ws l ≤ 50 * (l.length : Int)
  | [] => by simp [weighS]
  | x :: l => by
    have ih := weighS_bound hw l
    have : 0 ≤ (ws[x.toNat]?).getD 0 ∧ (ws[x.toNat]?).getD 0 ≤ 50 := by
      cases h : ws[x.toNat]? with
      | none => simp
      | some w => simpa using hw w (List.mem_of_getElem? h)
    simp only [weighS, List.length_cons]
    omega
theorem weighS_drop {ws b : List Int} {i : Nat} (hi : i < b.length) : weighS ws (b.drop i) = (ws[(b[i]).toNat]?).getD 0 + weighS ws (b.drop (i + 1)) := by
  rw [List.drop_eq_getElem_cons hi]; rfl
set_option maxRecDepth 100000 in
theorem weigh_ac (v u : AV) (ws b : List Int) (lo hi : Int) (H : AH) (Q : AV → AH → Prop) (hf : Fine ws b) (hv : Ls H v ws) (hu : Ls H u b) (h : ∀ H', Ext H H' → Q (.int .i64 (weighS ws b)) H') : AC Try.prog 77 [.agg [v, .int .i64 lo, .int .i64 hi], u] H Q := by
  obtain ⟨f1, f2, f3, f4⟩ := hf
  obtain ⟨r, off, ver, sz, full, rfl, -⟩ := id hv
  refine L_body 23 Try.func77 rfl rfl ?_
  refine L_reg [1, 2] (fun K hK => ?_)
  simp [AV.isU, acells]
  apply hK; clear hK K
  have hE := Ext.push H [AObj.row [.slice r off ws.length ver sz full, .int .i64 lo, .int .i64 hi] 0 0 false]
  obtain ⟨d0, d1, d2, -⟩ := (RecRow.new H (.slice r off ws.length ver sz full) lo hi 0).lds
  have hv := hv.ext hE
  have hu := hu.ext hE
  generalize H ++ [AObj.row [.slice r off ws.length ver sz full, .int .i64 lo, .int .i64 hi] 0 0 false] = H0 at *
  generalize H.length = q at *
  obtain ⟨r1, off1, ver1, sz1, full1, hve, hld⟩ := hv
  cases hve
  obtain ⟨r2, off2, ver2, sz2, full2, rfl, hld2⟩ := hu
  refine L_reg [1, 2, 5] (fun K hK => ?_)
  simp
  apply hK; clear hK K
  refine L_reg [2, 5, 8, 9, 10] (fun K hK => ?_)
  simp
  apply hK; clear hK K
  refine L_block (L_loopV [5, 10] (fun k vs H' => ∃ (i : Nat) (a : Int), k = b.length - i ∧ i ≤ b.length ∧ a + weighS ws (b.drop i) = weighS ws b ∧ 0 ≤ a ∧ a ≤ 50 * i ∧ vs = [.int .i64 a, .int .i64 i] ∧ H0 = H') _ [.int .i64 0, .int .i64 (0 : Nat)] rfl ⟨0, 0, rfl, by omega, by simp, by omega, by omega, rfl, rfl⟩ ?_)
  rintro k _ _ ⟨i, a, rfl, hi', hx, ha1, ha2, rfl, rfl⟩
  refine L_reg [2, 5, 8, 9, 10, 11] (fun K hK => ?_)
  simp
  apply hK; clear hK K
  refine L_dec (i < b.length) (by simp) (fun hlt => ?_) (fun hge => L_exit ?_)
  · obtain ⟨r', rfl, rfl, hrd⟩ := hld2 i hlt
    have hbx := f2 _ (List.getElem_mem hlt)
    rw [weighS_drop hlt] at hx
    refine L_block ?_
    refine L_reg [2, 5, 7, 8, 9, 10] (fun K hK => ?_)
    simp [hlt, hrd]
    apply hK; clear hK K
    generalize b[i] = x at hx hbx
    obtain ⟨x, rfl⟩ : ∃ m : Nat, x = (m : Int) := ⟨x.toNat, by omega⟩
    have hxl : x < ws.length := by omega
    obtain ⟨r3, rfl, rfl, hrd3⟩ := hld x hxl
    have hw := f1 _ (List.getElem_mem hxl)
    simp only [Int.toNat_natCast, List.getElem?_eq_getElem hxl, Option.getD_some] at hx
    refine L_reg [2, 5, 8, 9, 10] (fun K hK => ?_)
    simp [d0, hxl, hrd3, wrap_i64 (a := a + ws[x]) (by omega)]
    apply hK; clear hK K
    refine L_reg [2, 5, 8, 9, 10] (fun K hK => ?_)
    simp [wrap_i64 (a := (i : Int) + 1) (by omega)]
    apply hK; clear hK K
    exact ⟨b.length - (i + 1), [.int .i64 (a + ws[x]), .int .i64 (i + 1 : Nat)], by omega, by simp, i + 1, a + ws[x], rfl, by omega, by omega, by omega, by omega, rfl, rfl⟩
  · rw [List.drop_eq_nil_of_le (by omega)] at hx
    simp only [weighS, Int.add_zero] at hx
    refine L_reg [4] (fun K hK => ?_)
    simp
    apply hK; clear hK K
    exact L_ret ⟨.inr rfl, _, rfl, by rw [hx]; exact h _ hE⟩
set_option maxRecDepth 100000 in
theorem rweight_ac (v u : AV) (ws b : List Int) (lo hi : Int) (H : AH) (Q : AV → AH → Prop) (hf : Fine ws b) (hv : Ls H v ws) (hu : Ls H u b) (h : ∀ H', Ext H H' → Q (.int .i64 (weighS ws b)) H') : AC Try.prog 79 [.agg [v, .int .i64 lo, .int .i64 hi], u] H Q := by
  obtain ⟨f1, f2, f3, f4⟩ := hf
  obtain ⟨r, off, ver, sz, full, rfl, -⟩ := id hv
  refine L_body 24 Try.func79 rfl rfl ?_
  refine L_reg [1, 2] (fun K hK => ?_)
  simp [AV.isU, acells]
  apply hK; clear hK K
  have hE := Ext.push H [AObj.row [.slice r off ws.length ver sz full, .int .i64 lo, .int .i64 hi] 0 0 false]
  obtain ⟨d0, d1, d2, -⟩ := (RecRow.new H (.slice r off ws.length ver sz full) lo hi 0).lds
  have hv := hv.ext hE
  have hu := hu.ext hE
  generalize H ++ [AObj.row [.slice r off ws.length ver sz full, .int .i64 lo, .int .i64 hi] 0 0 false] = H0 at *
  generalize H.length = q at *
  obtain ⟨r1, off1, ver1, sz1, full1, hve, hld⟩ := hv
  cases hve
  obtain ⟨r2, off2, ver2, sz2, full2, rfl, hld2⟩ := hu
  refine L_reg [1, 2, 5] (fun K hK => ?_)
  simp
  apply hK; clear hK K
  refine L_reg [1, 2, 5, 6] (fun K hK => ?_)
  simp
  apply hK; clear hK K
  refine L_block (L_loopV [5, 6] (fun k vs H' => ∃ (i : Nat) (a : Int), k = b.length - i ∧ i ≤ b.length ∧ a + weighS ws (b.drop i) = weighS ws b ∧ 0 ≤ a ∧ a ≤ 50 * i ∧ vs = [.int .i64 a, .int .i64 i] ∧ H0 = H') _ [.int .i64 0, .int .i64 (0 : Nat)] rfl ⟨0, 0, rfl, by omega, by simp, by omega, by omega, rfl, rfl⟩ ?_)
  rintro k _ _ ⟨i, a, rfl, hi', hx, ha1, ha2, rfl, rfl⟩
  refine L_reg [1, 2, 5, 6, 10] (fun K hK => ?_)
  simp
  apply hK; clear hK K
  refine L_dec (i < b.length) (by simp) (fun hlt => ?_) (fun hge => L_exit ?_)
  · obtain ⟨r', rfl, rfl, hrd⟩ := hld2 i hlt
    have hbx := f2 _ (List.getElem_mem hlt)
    rw [weighS_drop hlt] at hx
    refine L_block ?_
    generalize b[i] = x at hx hbx hrd
    obtain ⟨x, rfl⟩ : ∃ m : Nat, x = (m : Int) := ⟨x.toNat, by omega⟩
    have hxl : x < ws.length := by omega
    obtain ⟨r3, rfl, rfl, hrd3⟩ := hld x hxl
    have hw := f1 _ (List.getElem_mem hxl)
    simp only [Int.toNat_natCast, List.getElem?_eq_getElem hxl, Option.getD_some] at hx
    refine L_regT mixed [1, 2, 5, 6] (by kernel_rfl) (fun K hK => ?_)
    simp [d0, hlt, hrd, hxl, hrd3, wrap_i64 (a := a + ws[x]) (by omega)]
    apply hK; clear hK K
    refine L_reg [1, 2, 5, 6] (fun K hK => ?_)
    simp [wrap_i64 (a := (i : Int) + 1) (by omega)]
    apply hK; clear hK K
    exact ⟨b.length - (i + 1), [.int .i64 (a + ws[x]), .int .i64 (i + 1 : Nat)], by omega, by simp, i + 1, a + ws[x], rfl, by omega, by omega, by omega, by omega, rfl, rfl⟩
  · rw [List.drop_eq_nil_of_le (by omega)] at hx
    simp only [weighS, Int.add_zero] at hx
    refine L_reg [4] (fun K hK => ?_)
    simp
    apply hK; clear hK K
    exact L_ret ⟨.inr rfl, _, rfl, by rw [hx]; exact h _ hE⟩
end Go.Proofs.Ytmoifofihafgmaa

/- Recipes: weights and those that fit. -/
namespace Go.Proofs.Ytmoifofihafgmaa
open Go Go.Proofs.Ytmoifofihafgmaa.AX

def withE (ws : List Int) (lo hi : Int) (b : List Int) : Int := if recE ws lo hi = 0 then checkE ws.length b else recE ws lo hi
theorem rec_ok {ws : List Int} {lo hi : Int} (h : recE ws lo hi = 0) : 1 ≤ ws.length ∧ ws.length ≤ 10 ∧ (∀ w ∈ ws, 0 ≤ w ∧ w ≤ 50) := by
  unfold recE at h
  split at h
  · cases h
  · split at h
    · cases h
    · split at h
      · cases h
      · rename_i h1 h2 h3
        refine ⟨by omega, by omega, fun w hw => ?_⟩
        have : badS w = false := by
          cases hb : badS w with
          | false => rfl
          | true => exact absurd (List.any_eq_true.2 ⟨w, hw, hb⟩) h3
        simp [badS] at this
        omega
theorem fine_of {ws b : List Int} {lo hi : Int} (h : recE ws lo hi = 0) (hb : Okb ws.length b) : Fine ws b := by
  obtain ⟨h1, h2, h3⟩ := rec_ok h
  exact ⟨h3, hb.1, by have := okb_len hb; omega, h2⟩
theorem okb_of {n : Nat} {b : List Int} (h : checkE n b = 0) : Okb n b := by
  obtain ⟨N, hN, -, -, hok⟩ := check_ok h
  have : N = n := by omega
  exact this ▸ hok
theorem checkWith_ac (v u : AV) (ws b : List Int) (lo hi : Int) (H : AH) (Q : AV → AH → Prop) (hl : ws.length ≤ 1000000) (hb : b.length ≤ 1000000) (hv : Ls H v ws) (hu : Ls H u b) (h : ∀ H', Ext H H' → Q (.int .i64 (withE ws lo hi b)) H') : AC Try.prog 76 [.agg [v, .int .i64 lo, .int .i64 hi], u] H Q := by
  obtain ⟨r, off, ver, sz, full, rfl, -⟩ := id hv
  refine L_body 16 Try.func76 rfl rfl ?_
  refine L_reg [1, 2] (fun K hK => ?_)
  simp [AV.isU, acells]
  apply hK; clear hK K
  have hE := Ext.push H [AObj.row [.slice r off ws.length ver sz full, .int .i64 lo, .int .i64 hi] 0 0 false]
  have hR := RecRow.new H (.slice r off ws.length ver sz full) lo hi 0
  obtain ⟨d0, d1, d2, d3⟩ := hR.lds
  generalize H ++ [AObj.row [.slice r off ws.length ver sz full, .int .i64 lo, .int .i64 hi] 0 0 false] = H0 at *
  generalize H.length = q at *
  refine L_reg [1, 2, 5] (fun K hK => ?_)
  simp [okFn_low, d3]
  refine CheckRecipe_ac _ ws lo hi H0 _ hl (hv.ext hE) (fun H1 hE1 => ?_)
  simp
  apply hK; clear hK K
  obtain ⟨d0, -⟩ := (hR.ext hE1).lds
  have hE := hE.trans hE1
  refine L_reg [1, 2, 5, 9] (fun K hK => ?_)
  simp
  apply hK; clear hK K
  unfold withE at h
  refine L_split rfl (fun ht => ?_) (fun hf => ?_)
  · have hne : recE ws lo hi ≠ 0 := by simpa using ht
    rw [if_neg hne] at h
    refine L_reg [4] (fun K hK => ?_)
    simp
    apply hK; clear hK K
    exact L_ret ⟨.inr rfl, _, rfl, h _ hE⟩
  · have he : recE ws lo hi = 0 := by simpa using hf
    rw [if_pos he] at h
    refine L_reg [4] (fun K hK => ?_)
    simp [okFn_low, d0]
    refine Check_ac ws.length u b _ _ hb (hu.ext hE) ?_
    simp
    apply hK; clear hK K
    exact L_ret ⟨.inr rfl, _, rfl, h _ hE⟩
theorem blended_ac (v u : AV) (ws b : List Int) (lo hi : Int) (H : AH) (Q : AV → AH → Prop) (hl : ws.length ≤ 1000000) (hb : b.length ≤ 1000000) (hv : Ls H v ws) (hu : Ls H u b) (h : ∀ H', Ext H H' → Q (.int .i64 (withE ws lo hi b)) H') : AC Try.prog 78 [.agg [v, .int .i64 lo, .int .i64 hi], u] H Q := by
  obtain ⟨r, off, ver, sz, full, rfl, -⟩ := id hv
  refine L_body 16 Try.func78 rfl rfl ?_
  refine L_reg [1, 2] (fun K hK => ?_)
  simp [AV.isU, acells]
  apply hK; clear hK K
  have hE := Ext.push H [AObj.row [.slice r off ws.length ver sz full, .int .i64 lo, .int .i64 hi] 0 0 false]
  have hR := RecRow.new H (.slice r off ws.length ver sz full) lo hi 0
  obtain ⟨d0, d1, d2, d3⟩ := hR.lds
  generalize H ++ [AObj.row [.slice r off ws.length ver sz full, .int .i64 lo, .int .i64 hi] 0 0 false] = H0 at *
  generalize H.length = q at *
  refine L_reg [1, 2, 5] (fun K hK => ?_)
  simp [okFn_low, d3]
  refine rCheckRecipe_ac _ ws lo hi H0 _ hl (hv.ext hE) (fun H1 hE1 => ?_)
  simp
  apply hK; clear hK K
  obtain ⟨d0, -⟩ := (hR.ext hE1).lds
  have hE := hE.trans hE1
  refine L_reg [1, 2, 5, 9] (fun K hK => ?_)
  simp
  apply hK; clear hK K
  unfold withE at h
  refine L_split rfl (fun ht => ?_) (fun hf => ?_)
  · have he : recE ws lo hi = 0 := by simpa using ht
    rw [if_pos he] at h
    refine L_reg [5] (fun K hK => ?_)
    simp [okFn_low, d0]
    refine rCheck_ac ws.length u b _ _ hb (hu.ext hE) ?_
    simp
    apply hK; clear hK K
    refine L_reg [4] (fun K hK => ?_)
    simp
    apply hK; clear hK K
    exact L_ret ⟨.inr rfl, _, rfl, h _ hE⟩
  · have hne : recE ws lo hi ≠ 0 := by simpa using hf
    rw [if_neg hne] at h
    refine L_reg [4] (fun K hK => ?_)
    simp
    apply hK; clear hK K
    exact L_ret ⟨.inr rfl, _, rfl, h _ hE⟩
def weightS (ws : List Int) (lo hi : Int) (b : List Int) : Int := if withE ws lo hi b = 0 then weighS ws b else 0
theorem with_ok {ws b : List Int} {lo hi : Int} (h : withE ws lo hi b = 0) : Fine ws b ∧ Okb ws.length b := by
  unfold withE at h
  split at h
  · rename_i h1
    exact ⟨fine_of h1 (okb_of h), okb_of h⟩
  · contradiction
theorem Weight_ac (v u : AV) (ws b : List Int) (lo hi : Int) (H : AH) (Q : AV → AH → Prop) (hl : ws.length ≤ 1000000) (hb : b.length ≤ 1000000) (hv : Ls H v ws) (hu : Ls H u b) (h : ∀ H', Ext H H' → Q (.tuple [.int .i64 (weightS ws lo hi b), .int .i64 (withE ws lo hi b)]) H') : AC Try.prog 32 [.agg [v, .int .i64 lo, .int .i64 hi], u] H Q := by
  obtain ⟨r, off, ver, sz, full, rfl, -⟩ := id hv
  refine L_body 16 Try.func32 rfl rfl ?_
  refine L_reg [1, 2] (fun K hK => ?_)
  simp [AV.isU, acells]
  apply hK; clear hK K
  have hE := Ext.push H [AObj.row [.slice r off ws.length ver sz full, .int .i64 lo, .int .i64 hi] 0 0 false]
  have hR := RecRow.new H (.slice r off ws.length ver sz full) lo hi 0
  obtain ⟨d0, d1, d2, d3⟩ := hR.lds
  generalize H ++ [AObj.row [.slice r off ws.length ver sz full, .int .i64 lo, .int .i64 hi] 0 0 false] = H0 at *
  generalize H.length = q at *
  refine L_reg [1, 2, 6] (fun K hK => ?_)
  simp [okFn_low, d3]
  refine checkWith_ac _ u ws b lo hi H0 _ hl hb (hv.ext hE) (hu.ext hE) (fun H1 hE1 => ?_)
  simp
  apply hK; clear hK K
  obtain ⟨-, -, -, d3⟩ := (hR.ext hE1).lds
  have hE := hE.trans hE1
  refine L_reg [1, 2, 6, 11] (fun K hK => ?_)
  simp
  apply hK; clear hK K
  unfold weightS at h
  refine L_split rfl (fun ht => ?_) (fun hf => ?_)
  · have hne : withE ws lo hi b ≠ 0 := by simpa using ht
    rw [if_neg hne] at h
    refine L_reg [4, 5] (fun K hK => ?_)
    simp
    apply hK; clear hK K
    exact L_ret ⟨.inr rfl, _, rfl, h _ hE⟩
  · have he : withE ws lo hi b = 0 := by simpa using hf
    rw [if_pos he, he] at h
    refine L_reg [4, 5] (fun K hK => ?_)
    simp [okFn_low, d3]
    refine weigh_ac _ u ws b lo hi H1 _ (with_ok he).1 (hv.ext hE) (hu.ext hE) (fun H2 hE2 => ?_)
    simp
    apply hK; clear hK K
    exact L_ret ⟨.inr rfl, _, rfl, h _ (hE.trans hE2)⟩
theorem rWeight_ac (v u : AV) (ws b : List Int) (lo hi : Int) (H : AH) (Q : AV → AH → Prop) (hl : ws.length ≤ 1000000) (hb : b.length ≤ 1000000) (hv : Ls H v ws) (hu : Ls H u b) (h : ∀ H', Ext H H' → Q (.tuple [.int .i64 (weightS ws lo hi b), .int .i64 (withE ws lo hi b)]) H') : AC Try.prog 33 [.agg [v, .int .i64 lo, .int .i64 hi], u] H Q := by
  obtain ⟨r, off, ver, sz, full, rfl, -⟩ := id hv
  refine L_body 16 Try.func33 rfl rfl ?_
  refine L_reg [1, 2] (fun K hK => ?_)
  simp [AV.isU, acells]
  apply hK; clear hK K
  have hE := Ext.push H [AObj.row [.slice r off ws.length ver sz full, .int .i64 lo, .int .i64 hi] 0 0 false]
  have hR := RecRow.new H (.slice r off ws.length ver sz full) lo hi 0
  obtain ⟨d0, d1, d2, d3⟩ := hR.lds
  generalize H ++ [AObj.row [.slice r off ws.length ver sz full, .int .i64 lo, .int .i64 hi] 0 0 false] = H0 at *
  generalize H.length = q at *
  refine L_reg [1, 2, 6] (fun K hK => ?_)
  simp [okFn_low, d3]
  refine blended_ac _ u ws b lo hi H0 _ hl hb (hv.ext hE) (hu.ext hE) (fun H1 hE1 => ?_)
  simp
  apply hK; clear hK K
  obtain ⟨-, -, -, d3⟩ := (hR.ext hE1).lds
  have hE := hE.trans hE1
  refine L_reg [1, 2, 6, 11] (fun K hK => ?_)
  simp
  apply hK; clear hK K
  unfold weightS at h
  refine L_split rfl (fun ht => ?_) (fun hf => ?_)
  · have hne : withE ws lo hi b ≠ 0 := by simpa using ht
    rw [if_neg hne] at h
    refine L_reg [4, 5] (fun K hK => ?_)
    simp
    apply hK; clear hK K
    exact L_ret ⟨.inr rfl, _, rfl, h _ hE⟩
  · have he : withE ws lo hi b = 0 := by simpa using hf
    rw [if_pos he, he] at h
    refine L_reg [4, 5] (fun K hK => ?_)
    simp [okFn_low, d3]
    refine rweight_ac _ u ws b lo hi H1 _ (with_ok he).1 (hv.ext hE) (hu.ext hE) (fun H2 hE2 => ?_)
    simp
    apply hK; clear hK K
    exact L_ret ⟨.inr rfl, _, rfl, h _ (hE.trans hE2)⟩
def fitB (ws : List Int) (lo hi : Int) (b : List Int) : Bool := decide (lo ≤ weighS ws b) && decide (weighS ws b ≤ hi)
theorem fits_ac (v u : AV) (ws b : List Int) (lo hi : Int) (H : AH) (Q : AV → AH → Prop) (hf : Fine ws b) (hv : Ls H v ws) (hu : Ls H u b) (h : ∀ H', Ext H H' → Q (.bool (fitB ws lo hi b)) H') : AC Try.prog 97 [.agg [v, .int .i64 lo, .int .i64 hi], u] H Q := by
  obtain ⟨r, off, ver, sz, full, rfl, -⟩ := id hv
  refine L_body 19 Try.func97 rfl rfl ?_
  refine L_reg [1, 2] (fun K hK => ?_)
  simp [AV.isU, acells]
  apply hK; clear hK K
  have hE := Ext.push H [AObj.row [.slice r off ws.length ver sz full, .int .i64 lo, .int .i64 hi] 0 0 false]
  have hR := RecRow.new H (.slice r off ws.length ver sz full) lo hi 0
  obtain ⟨d0, d1, d2, d3⟩ := hR.lds
  generalize H ++ [AObj.row [.slice r off ws.length ver sz full, .int .i64 lo, .int .i64 hi] 0 0 false] = H0 at *
  generalize H.length = q at *
  refine L_reg [2, 5] (fun K hK => ?_)
  simp [okFn_low, d3]
  refine weigh_ac _ u ws b lo hi H0 _ hf (hv.ext hE) (hu.ext hE) (fun H1 hE1 => ?_)
  simp
  apply hK; clear hK K
  obtain ⟨-, d1, d2, -⟩ := (hR.ext hE1).lds
  unfold fitB at h
  by_cases h1 : lo ≤ weighS ws b
  · refine L_reg [4] (fun K hK => ?_)
    simp [d1, d2, pickV, h1]
    apply hK; clear hK K
    exact L_ret ⟨.inr rfl, _, rfl, by simpa [h1] using h _ (hE.trans hE1)⟩
  · refine L_reg [4] (fun K hK => ?_)
    simp [d1, pickV, h1]
    apply hK; clear hK K
    exact L_ret ⟨.inr rfl, _, rfl, by simpa [h1] using h _ (hE.trans hE1)⟩
end Go.Proofs.Ytmoifofihafgmaa

/- An own list grows. -/
namespace Go.Proofs.Ytmoifofihafgmaa
open Go Go.Proofs.Ytmoifofihafgmaa.AX

/-- An own list grows; all other rows stay. -/
theorem own_grow {P : Program} {N : Nat} {H : AH} {t u : TypeId} (ht : elT P t = true) (hu : elT P u = true) {v x : AV} {l : List AV} {m : Nat} (hN : N ≤ H.length) (ho : OwnF N H v l) (hx : x.one = true) (hlen : l.length < 16777216) :
    ∃ r ver s H', aAppend P (H ++ [AObj.row [x] 0 m false]) t u v (.slice (some H.length) 0 1 0 1 false) = some (.slice (some r) 0 (l.length + 1) ver 1 false, H') ∧ N ≤ r ∧ H'[r]? = some (.row (l ++ [x]) ver s false) ∧ KeepX r H H' ∧ (∀ r0 ver0, v = .slice (some r0) 0 l.length ver0 1 false → r = r0) ∧ (v = .slice none 0 0 0 1 false → H.length ≤ r) := by
  obtain ⟨e, I, h1, h2, h3, h4, -⟩ := elT_some ht
  obtain ⟨e', I', g1, -⟩ := elT_some hu
  have hsrc : aSrc P (H ++ [AObj.row [x] 0 m false]) u 1 (.slice (some H.length) 0 1 0 1 false) = some (1, [x]) := by
    cases x <;> simp_all [aSrc, ldn, takeKnown, AV.one]
  unfold aAppend
  rcases ho with ⟨rfl, rfl⟩ | ⟨r, ver, stale, hr0, rfl, hr⟩
  · refine ⟨H.length + 1, 0, 0, H ++ [AObj.row [x] 0 m false] ++ [AObj.row [x] 0 0 false], ?_, by omega, by simp, ?_, fun r0 v0 h => (by cases h), fun _ => by omega⟩
    · simp [h1, h2, h3, h4, hsrc, hx]
    · rw [List.append_assoc]; exact (KeepX.refl _ H).ext (.push _ _)
  · have hlt : r < H.length := (List.getElem?_eq_some_iff.1 hr).1
    have hr' : (H ++ [AObj.row [x] 0 m false])[r]? = some (AObj.row l ver stale false) := by rw [List.getElem?_append_left hlt]; exact hr
    refine ⟨r, ver + 1, min stale l.length, (H ++ [AObj.row [x] 0 m false]).set r (AObj.row (l ++ [x]) (ver + 1) (min stale l.length) false), ?_, hr0, get_set hr', ((KeepX.refl r H).ext (.push _ _)).set _, fun r0 v0 h => (by cases h; rfl), fun h => (by cases h)⟩
    have : l.length + 1 ≤ 16777216 := hlen
    have hin : inPlace (H ++ [AObj.row [x] 0 m false]) r 0 l.length 1 ver 1 [x] = none := by simp [inPlace, hr']; omega
    simp [h1, h2, h3, h4, hsrc, hx, grow, hr', this, hin]
set_option maxRecDepth 100000 in
theorem kept_own (v : AV) (l : List Int) (H : AH) (Q : AV → AH → Prop) (hl : l.length ≤ 1000000) (hv : Ls H v l) (h : ∀ r ver s H', H.length ≤ r → H'[r]? = some (.row (l.map (.int .i64)) ver s false) → Ext H H' → Q (.slice (some r) 0 l.length ver 1 false) H') : AC Try.prog 73 [v] H Q := by
  obtain ⟨r0, off0, ver0, sz0, full0, hv0, -⟩ := id hv
  refine L_body 11 Try.func73 rfl rfl ?_
  refine L_reg [0] (fun K hK => ?_)
  simp
  apply hK; clear hK K
  refine L_reg [0, 3] (fun K hK => ?_)
  simp [hv0, make_z elz22 (show l.length ≤ 16777216 by omega)]
  apply hK; clear hK K
  have hE1 : Ext H (H ++ [AObj.row (List.replicate l.length (AV.int .i64 0)) 0 0 false]) := .push _ _
  have hw : (H ++ [AObj.row (List.replicate l.length (AV.int .i64 0)) 0 0 false])[H.length]? = some (.row (List.replicate l.length (AV.int .i64 0)) 0 0 false) := by simp
  generalize H ++ [AObj.row (List.replicate l.length (AV.int .i64 0)) 0 0 false] = H1 at hE1 hw ⊢
  obtain ⟨s, hcp⟩ := copy_new (H := H) (n := 0) hw (hv.ext hE1)
  rw [hv0] at hcp
  refine L_reg [3] (fun K hK => ?_)
  simp [hcp]
  apply hK; clear hK K
  refine L_reg [2] (fun K hK => ?_)
  simp
  apply hK; clear hK K
  exact L_ret ⟨.inr rfl, _, rfl, h H.length 0 s _ (Nat.le_refl _) (get_set hw) (hE1.set _ (Nat.le_refl _))⟩

end Go.Proofs.Ytmoifofihafgmaa

/- All blends of a size that fit. -/
namespace Go.Proofs.Ytmoifofihafgmaa
open Go Go.Proofs.Ytmoifofihafgmaa.AX

theorem zt37 : zeroT Try.prog 37 = some [.slice none 0 0 0 1 false] := by kernel_rfl
theorem sc37 : scal Try.prog 37 = true := by kernel_rfl
@[simp] theorem ld37 (H : AH) (r off ver : Nat) : loadV Try.prog 37 H (.ptr r off ver) = ld H r off ver := ld_sc (by kernel_rfl) ..
/-- What returns a row of its own, empty or not, is as good as one that makes just this row. -/
theorem AC.tidyO {f : FuncId} {args : List AV} {l : List Int} {H : AH} (h : ∀ Q : AV → AH → Prop, (∀ r ver s H', H.length ≤ r → H'[r]? = some (.row (l.map (.int .i64)) ver s false) → Ext H H' → Q (.slice (some r) 0 l.length ver 1 false) H') → AC Try.prog f args H Q) (Q : AV → AH → Prop)
    (hq : Q (.slice (some H.length) 0 l.length 0 1 false) (H ++ [.row (l.map (.int .i64)) 0 l.length false])) : AC Try.prog f args H Q := by
  refine AC_fin (h _ fun r ver stale H' hr hrow hE => ?_)
  refine ⟨⟨hE.1, fun r o hr ho => .inl (by rw [← hE.2 r hr]; exact ho)⟩, ?_⟩
  have ht : H'.take H.length = H := by
    obtain ⟨T, rfl⟩ := hE.app
    simp
  have hlm : (l.map (AV.int .i64)).length = l.length := by simp
  have h1 : belB H.length 4 (.slice (some r) 0 l.length ver 1 false) = false := by simp [belB]; omega
  have htk : (l.map (AV.int .i64)).take l.length = l.map (.int .i64) := List.take_of_length_le (by simp)
  have h2 : finSlice H.length H' (.slice (some r) 0 l.length ver 1 false) = some (.slice (some H.length) 0 l.length 0 1 false, .row (l.map (.int .i64)) 0 l.length false) := by
    simp only [finSlice, hrow, if_pos hr, Nat.mul_one, Nat.zero_add, List.drop_zero]
    rw [htk, if_pos ⟨trivial, by simp, belB_ints _ _⟩]
  have hf : finish H.length H' (.slice (some r) 0 l.length ver 1 false) = (.slice (some H.length) 0 l.length 0 1 false, H ++ [.row (l.map (.int .i64)) 0 l.length false]) := by
    unfold finish
    rw [h1]
    simp only [Bool.false_eq_true, if_false, h2, ht]
  rw [hf]; exact hq
theorem kept_q (v : AV) (l : List Int) (H : AH) (hl : l.length ≤ 1000000) (hv : Ls H v l) (Q : AV → AH → Prop) (hq : Q (.slice (some H.length) 0 l.length 0 1 false) (H ++ [.row (l.map (.int .i64)) 0 l.length false])) : AC Try.prog 73 [v] H Q :=
  AC.tidyO (fun Q h => kept_own v l H Q hl hv h) Q hq

/-- The list so far, in a cell at q; all its rows lie behind N. -/
def AllAt (N q : Nat) (H : AH) (done : List (List Int)) : Prop :=
  ∃ s va vs, H[q]? = some (.row [va] 0 s false) ∧ OwnF N H va vs ∧ vs.length = done.length ∧ ∀ i (h : i < done.length), ∃ r' ver s, N ≤ r' ∧ (∀ r0 v0, va = .slice (some r0) 0 vs.length v0 1 false → r' ≠ r0) ∧ vs[i]? = some (.slice (some r') 0 done[i].length ver 1 false) ∧ H[r']? = some (.row (done[i].map (.int .i64)) ver s false)
theorem AllAt.keep {N q : Nat} {H H' : AH} {done : List (List Int)} (h : AllAt N q H done) (hq : H'[q]? = H[q]?) (hk : ∀ j, N ≤ j → j < H.length → H'[j]? = H[j]?) : AllAt N q H' done := by
  obtain ⟨s, va, vs, h1, h2, h3, h4⟩ := h
  refine ⟨s, va, vs, hq.trans h1, ownF_keep h2 (fun j o hj ho => (hk j hj (lt_of_row ho)).trans ho), h3, fun i hi => ?_⟩
  obtain ⟨r', ver, s', g1, g2, g3, g4⟩ := h4 i hi
  exact ⟨r', ver, s', g1, g2, g3, (hk r' g1 (lt_of_row g4)).trans g4⟩
theorem AllAt.lss {N q : Nat} {H : AH} {done : List (List Int)} (h : AllAt N q H done) : ∃ va, ld H q 0 0 = some va ∧ va.one = true ∧ Lss H va done := by
  obtain ⟨s, va, vs, h1, h2, h3, h4⟩ := h
  have hone := ownF_one h2
  refine ⟨va, ?_, hone, ?_⟩
  · rw [ld_row h1]; cases va <;> first | rfl | (simp [AV.one] at hone)
  · rcases h2 with ⟨e, rfl⟩ | ⟨r, ver, stale, g1, rfl, g3⟩
    · subst e
      obtain rfl : done = [] := List.eq_nil_of_length_eq_zero (by simpa using h3.symm)
      exact .nil H
    · refine ⟨some r, 0, ver, 1, false, by rw [h3], fun i hi => ?_⟩
      obtain ⟨r', ver', s', k1, k2, k3, k4⟩ := h4 i hi
      exact ⟨r, _, rfl, rfl, by rw [ld_row g3, Nat.zero_add, k3]; rfl, Ls.row k4 false⟩
set_option maxRecDepth 100000 in
theorem fitting_ac (v : AV) (ws : List Int) (lo hi : Int) (k : Nat) (H : AH) (Q : AV → AH → Prop) (hR : recE ws lo hi = 0) (hk : k ≤ ws.length) (hv : Ls H v ws) (h : ∀ va H', Lss H' va ((roundS ws.length k).filter (fitB ws lo hi)) → va.one = true → Ext H H' → Q va H') : AC Try.prog 80 [.agg [v, .int .i64 lo, .int .i64 hi], .int .i64 k] H Q := by
  obtain ⟨hn1, hn, hw⟩ := rec_ok hR
  obtain ⟨r0, off0, ver0, sz0, full0, rfl, -⟩ := id hv
  refine L_body 22 Try.func80 rfl rfl ?_
  refine L_reg [1, 2] (fun K hK => ?_)
  simp [AV.isU, acells]
  apply hK; clear hK K
  have z0 := RecRow.new H (.slice r0 off0 ws.length ver0 sz0 full0) lo hi 0
  have zl : (H ++ [AObj.row [.slice r0 off0 ws.length ver0 sz0 full0, .int .i64 lo, .int .i64 hi] 0 0 false]).length = H.length + 1 := by simp
  have zE : Ext H (H ++ [AObj.row [.slice r0 off0 ws.length ver0 sz0 full0, .int .i64 lo, .int .i64 hi] 0 0 false]) := .push _ _
  generalize H ++ [AObj.row [.slice r0 off0 ws.length ver0 sz0 full0, .int .i64 lo, .int .i64 hi] 0 0 false] = Ha at z0 zl zE ⊢
  generalize hp : H.length = p at z0 zl ⊢
  refine L_reg [1, 2, 5] (fun K hK => ?_)
  simp [alloc_z zt37]
  apply hK; clear hK K
  obtain ⟨d0, -, -, -⟩ := (z0.ext (.push Ha [AObj.row [.slice none 0 0 0 1 false] 0 0 false])).lds
  refine L_reg [2, 5, 11] (fun K hK => ?_)
  simp [okFn_low, d0]
  refine round_ac ws.length k _ _ ?_
  simp
  apply hK; clear hK K
  obtain ⟨a1, a2, a3, a4, a5⟩ := rows3 Ha (.row [.slice none 0 0 0 1 false] 0 0 false) (.row [.int .i64 ws.length] 0 0 false) (.row [.int .i64 k] 0 0 false)
  simp only [List.append_assoc, List.cons_append, List.nil_append] at a1 a2 a3 a4 a5
  have a0 := z0.ext a5
  have a5 := zE.trans a5
  generalize Ha ++ [AObj.row [.slice none 0 0 0 1 false] 0 0 false, .row [.int .i64 ws.length] 0 0 false, .row [.int .i64 k] 0 0 false] = H1 at a0 a1 a2 a3 a4 a5 ⊢
  rw [zl] at a1 a2 a3 a4
  simp only [zl]
  refine L_block (L_range [2, 5] rfl (okFn_low (by omega) (by omega)) ?_)
  generalize hL : (⟨22, _, _, _, _⟩ : LR) = L
  have hnt : L.nt = 22 := by rw [← hL]
  have hps : L.ps = #[12] := by rw [← hL]
  have hass := congrArg LR.assign hL.symm
  have he : L.e = [(2, .ptr p 0 0), (5, .ptr (p + 1) 0 0)] := by rw [← hL]; rfl
  have hbody := congrArg LR.body hL.symm
  clear hL
  have hFl := roundS_len ws.length k
  have hFo : ∀ x ∈ roundS ws.length k, Okb ws.length x := fun x hx => okb_round hx
  have hFn := round_le2 (n := ws.length) (k := k) hn
  generalize hF : roundS ws.length k = F at *
  have hr0 : (H1 ++ [AObj.loop .ready .normal L])[H1.length]? = some (.loop .ready .normal L) := by simp
  have hlen : (H1 ++ [AObj.loop .ready .normal L]).length = p + 5 := by simp [a4]
  have hin : ∀ j, j < H1.length → (H1 ++ [AObj.loop .ready .normal L])[j]? = H1[j]? := fun j hj => List.getElem?_append_left hj
  refine round1_ac ws.length k hk hn H1.length (p + 3) (p + 2) 0 0 (fun rest H' => (∀ x ∈ rest, x ∈ F) ∧ p + 5 ≤ H'.length ∧ (∃ done, done ++ rest.filter (fitB ws lo hi) = F.filter (fitB ws lo hi) ∧ AllAt (p + 6) (p + 1) H' done) ∧
      RecRow H' p (.slice r0 off0 ws.length ver0 sz0 full0) lo hi ∧ H'[H1.length]? = some (.loop .ready .normal L) ∧ Ext H H')
    (fun _ => False) _ _ (by rw [hin _ (by omega)]; exact a3) (by rw [hin _ (by omega)]; exact a2) (by simp) ?_ ?_ ?_ ?_
  · rw [hlen]
    refine ⟨fun rest H2 H3 hsame ⟨gm, g0, ⟨done, g1, g2⟩, ⟨sr, g3⟩, g4, g5⟩ => ?_, fun l rest H2 st ⟨gm, g0, ⟨done, g1, g2⟩, g3, g4, g5⟩ hrow => ?_⟩
    · have e4 : H3[H1.length]? = _ := (hsame.2 _ (by omega) (by omega)).trans g4
      have hge := hsame.1
      exact ⟨gm, by omega, ⟨done, g1, g2.keep (hsame.2 _ (by omega) (by omega)) fun j h1 h2 => hsame.2 j (by omega) h2⟩, ⟨sr, (hsame.2 _ (by omega) (by omega)).trans g3⟩, e4, below_ext (w := p) g5 (by omega) (by omega) (fun j hj => hsame.2 j (by omega) (by omega))⟩
    · have hwl := lt_of_row hrow
      have hlF := gm l (by simp)
      have hlb : l.length = k := hFl l hlF
      have hlo := hFo l hlF
      refine AYld_mkA g4 (by rw [hps]; rfl) (by rw [hps, hnt]; simp) ?_
      rw [hnt, hps, he, hass]
      refine L_reg [2, 5, 6] (fun K hK => ?_)
      simp [psEnv]
      apply hK; clear hK K
      refine ⟨rfl, .normal, L, g4, ?_⟩
      rw [hbody]
      generalize hH2b : H2.set H1.length (.loop .busy .normal L) = H2b
      have hOff : ∀ j, j ≠ H1.length → H2b[j]? = H2[j]? := fun j hj => by rw [← hH2b, set_ne (Ne.symm hj)]
      have bp : RecRow H2b p (.slice r0 off0 ws.length ver0 sz0 full0) lo hi := by
        obtain ⟨sr, g3⟩ := g3
        exact ⟨sr, (hOff _ (by omega)).trans g3⟩
      have ball := g2.keep (H' := H2b) (hOff _ (by omega)) (fun j h1 _ => hOff j (by omega))
      have bw : H2b[p + 5]? = some (.row (l.map (.int .i64)) 0 st false) := (hOff _ (by omega)).trans hrow
      have br : H2b[H1.length]? = some (.loop .busy .normal L) := by rw [← hH2b, List.getElem?_set_self (by omega)]
      have bE : Ext H H2b := by rw [← hH2b]; exact g5.set _ (by omega)
      have bl : H2b.length = H2.length := by rw [← hH2b]; simp
      obtain ⟨-, -, -, d3⟩ := bp.lds
      have hLw : Ls H2b (.slice (some (p + 5)) 0 k 0 1 false) l := by
        have := Ls.row bw false
        rwa [hlb] at this
      refine L_block ?_
      refine L_reg [5, 6, 15] (fun K hK => ?_)
      simp [okFn_low, d3]
      refine fits_ac _ _ ws l lo hi H2b _ (fine_of hR hlo) (hv.ext bE) hLw (fun H3 hE3 => ?_)
      simp
      apply hK; clear hK K
      have hge3 := hE3.1
      have ball := ball.keep (hE3.2 _ (by omega)) (fun j _ h2 => hE3.2 j h2)
      have bw := hE3.row bw
      have br := hE3.row br
      have bp := bp.ext hE3
      have hLw := hLw.ext hE3
      have bE3 := bE.trans hE3
      by_cases hfit : fitB ws lo hi l = true
      · refine L_true (by simp [hfit]) ?_
        rw [List.filter_cons, if_pos hfit] at g1
        obtain ⟨s1, va, vs, b1, b2, b3, b4⟩ := ball
        have hdl : done.length ≤ F.length := by
          have := congrArg List.length g1
          have := List.length_filter_le (fitB ws lo hi) F
          simp at *; omega
        have hone := ownF_one b2
        have eva : ld H3 (p + 1) 0 0 = some va := by rw [ld_row b1]; cases va <;> first | rfl | (simp [AV.one] at hone)
        have hEx : Ext H3 (H3 ++ [AObj.row (l.map (.int .i64)) 0 l.length false]) := .push _ _
        obtain ⟨r, ver, s, H5, e1, e2, e3, e4, e5, e6⟩ := own_grow (P := Try.prog) (H := H3 ++ [AObj.row (l.map (.int .i64)) 0 l.length false]) (N := p + 6) (t := 37) (u := 37) (m := 1) (x := .slice (some H3.length) 0 l.length 0 1 false) el37 el37 (by simp; omega) (ownF_keep b2 fun j o _ ho => hEx.row ho) rfl (by omega)
        have hst := store_row (P := Try.prog) (u := 37) (p := 0) sc37 (x := .slice (some r) 0 (vs.length + 1) ver 1 false) (y := va) rfl (e4.row (by omega) (hEx.row b1)) (by cases va <;> first | rfl | (simp [AV.one] at hone))
        simp only [List.append_assoc, List.cons_append, List.nil_append, List.length_append, List.length_singleton] at e1
        have hl6 : p + 6 ≤ H3.length := by omega
        have hrH3 : r ≠ H3.length := by
          rcases b2 with ⟨-, hn0⟩ | ⟨r1, v1, st1, q1, hv1, q3⟩
          · have := e6 hn0; simp at this; omega
          · have := e5 r1 v1 hv1; have := lt_of_row q3; omega
        refine L_regX mixed [] (by kernel_rfl) (fun K hK => ?_)
        simp [okFn_low, eva]
        refine exX_mk (fun Q hQ => kept_q _ l H3 (by omega) hLw Q hQ) hEx ?_
        simp [e1, hst]
        apply hK; clear hK K
        have br5 := e4.row (by omega : H1.length ≠ r) (hEx.row br)
        have hge5 := e4.1
        simp only [List.length_append, List.length_singleton] at hge5
        have hlt := hE3.trans hEx
        refine ⟨.busy, .normal, L, by rw [set_ne (by omega)]; exact br5, true, rfl, ?_⟩
        simp only [if_true]
        refine ⟨⟨fun x hx => gm x (by simp [hx]), by simp; omega, ⟨done ++ [l], by simpa using g1, ?_⟩, ?_, ?_, ?_⟩, ⟨by simp; omega, fun j N0 r0 s0 h1 h2 => ?_⟩, st, ?_⟩
        · refine ⟨0, .slice (some r) 0 (vs.length + 1) ver 1 false, vs ++ [.slice (some H3.length) 0 l.length 0 1 false], ?_, .inr ⟨r, ver, s, e2, by simp, ?_⟩, by simp [b3], fun i hi => ?_⟩
          · rw [set_ne (by omega), get_set (e4.row (by omega) (hEx.row b1))]
          · rw [set_ne (by omega), set_ne (by omega)]; exact e3
          · by_cases hid : i < done.length
            · obtain ⟨r', ver', s', q1, q2, q3, q4⟩ := b4 i hid
              have hrr : r' ≠ r := by
                rcases b2 with ⟨hn0, -⟩ | ⟨r1, v1, st1, -, hv1, -⟩
                · rw [hn0] at b3; simp at b3; omega
                · rw [e5 r1 v1 hv1]; exact q2 r1 v1 hv1
              refine ⟨r', ver', s', q1, fun r2 v2 he2 => ?_, ?_, ?_⟩
              · simp only [List.length_append, List.length_singleton] at he2
                cases he2; exact hrr
              · rw [List.getElem?_append_left (by omega), q3, List.getElem_append_left hid]
              · rw [List.getElem_append_left hid, set_ne (by omega), set_ne (by omega)]
                exact e4.row hrr (hEx.row q4)
            · have : i = done.length := by simp at hi; omega
              subst this
              refine ⟨H3.length, 0, l.length, hl6, fun r2 v2 he2 => ?_, ?_, ?_⟩
              · simp only [List.length_append, List.length_singleton] at he2
                cases he2; exact Ne.symm hrH3
              · rw [List.getElem?_append_right (by omega)]; simp [b3]
              · rw [set_ne (by omega), set_ne (by omega)]
                simpa using e4.row (Ne.symm hrH3) (by simp : (H3 ++ [AObj.row (l.map (.int .i64)) 0 l.length false])[H3.length]? = some (.row (l.map (.int .i64)) 0 l.length false))
        · obtain ⟨sr, bp⟩ := bp
          refine ⟨sr, ?_⟩
          rw [set_ne (by omega), set_ne (by omega)]
          exact e4.row (by omega) (hEx.row bp)
        · rw [List.getElem?_set_self (by simp; omega)]
        · have hE5 : Ext H H5 := ⟨by have := bE3.1; omega, fun j hj => by rw [e4.2 j (by omega) (by simp; have := bE3.1; omega), (bE3.trans hEx).2 j hj]⟩
          exact (hE5.set _ (by omega)).set _ (by omega)
        · have h3 := hE3.row ((hOff j (by omega)).trans h2)
          have hjr : j ≠ r := by
            rintro rfl
            rcases b2 with ⟨-, hn0⟩ | ⟨r1, v1, st1, -, hv1, q3⟩
            · have := e6 hn0; have := lt_of_row h3; simp at *; omega
            · have := e5 r1 v1 hv1
              subst this
              rw [h3] at q3
              cases q3
              obtain ⟨r', ver', s', -, -, k3, -⟩ := b4 1 (by simp at b3; omega)
              simp at k3
          rw [set_ne (by omega), set_ne (by omega)]
          exact e4.row hjr (hEx.row h3)
        · rw [set_ne (by omega), set_ne (by omega)]
          exact e4.row (by omega) (hEx.row bw)
      · refine L_false (by simp [hfit]) ?_
        rw [List.filter_cons, if_neg hfit] at g1
        refine ⟨.busy, .normal, L, br, true, rfl, ?_⟩
        simp only [if_true]
        refine ⟨⟨fun x hx => gm x (by simp [hx]), by simp; omega, ⟨done, g1, ball.keep (by rw [set_ne (by omega)]) (fun j h1 _ => by rw [set_ne (by omega)])⟩, ?_, ?_, bE3.set _ (by omega)⟩, ⟨by simp; omega, fun j N0 r0 s0 h1 h2 => ?_⟩, st, ?_⟩
        · obtain ⟨sr, bp⟩ := bp
          exact ⟨sr, by rw [set_ne (by omega)]; exact bp⟩
        · rw [List.getElem?_set_self (by omega)]
        · rw [set_ne (by omega)]
          exact hE3.row ((hOff j (by omega)).trans h2)
        · rw [set_ne (by omega)]; exact bw
  · refine ⟨fun x hx => by rw [← hF]; exact hx, by omega, ⟨[], by rw [hF]; simp, 0, _, [], (hin _ (by omega)).trans a1, .nil _ _, rfl, fun i hi => by simp at hi⟩, a0.ext (.push _ _), hr0, a5.trans (.push _ _)⟩
  · rintro H' ⟨-, g0, ⟨done, g1, g2⟩, -, g4, g5⟩
    refine ⟨.ready, .normal, L, g4, by simp, ?_⟩
    simp only [List.filter_nil, List.append_nil] at g1
    subst g1
    obtain ⟨va, e, hone, hl⟩ := (g2.keep (H' := H'.set H1.length (.loop .exhausted .normal L)) (by rw [set_ne (by omega)]) (fun j h1 _ => by rw [set_ne (by omega)])).lss
    show AWL _ _ _ _ _ _
    refine L_reg [4] (fun K hK => ?_)
    simp [e]
    apply hK; clear hK K
    exact L_ret ⟨.inr rfl, _, rfl, h va _ hl hone (g5.set _ (by omega))⟩
  · intro H' h; exact h.elim
end Go.Proofs.Ytmoifofihafgmaa

/- Fits, and the reference's. -/
namespace Go.Proofs.Ytmoifofihafgmaa
open Go Go.Proofs.Ytmoifofihafgmaa.AX

def fitsE (ws : List Int) (lo hi k : Int) : Int := if recE ws lo hi = 0 then sizeE ws.length k else recE ws lo hi
def fitsN (ws : List Int) (lo hi k : Int) : Int := if fitsE ws lo hi k = 0 then (((roundS ws.length k.toNat).filter (fitB ws lo hi)).length : Int) else 0
theorem Fits_ac (v : AV) (ws : List Int) (lo hi k : Int) (H : AH) (Q : AV → AH → Prop) (hl : ws.length ≤ 1000000) (hv : Ls H v ws) (h : ∀ H', Ext H H' → Q (.tuple [.int .i64 (fitsN ws lo hi k), .int .i64 (fitsE ws lo hi k)]) H') : AC Try.prog 34 [.agg [v, .int .i64 lo, .int .i64 hi], .int .i64 k] H Q := by
  obtain ⟨r, off, ver, sz, full, rfl, -⟩ := id hv
  refine L_body 25 Try.func34 rfl rfl ?_
  refine L_reg [1, 2] (fun K hK => ?_)
  simp [AV.isU, acells]
  apply hK; clear hK K
  have hE := Ext.push H [AObj.row [.slice r off ws.length ver sz full, .int .i64 lo, .int .i64 hi] 0 0 false]
  have hR := RecRow.new H (.slice r off ws.length ver sz full) lo hi 0
  obtain ⟨d0, d1, d2, d3⟩ := hR.lds
  generalize H ++ [AObj.row [.slice r off ws.length ver sz full, .int .i64 lo, .int .i64 hi] 0 0 false] = H0 at *
  generalize H.length = q at *
  refine L_reg [1, 2, 6] (fun K hK => ?_)
  simp [okFn_low, d3]
  refine CheckRecipe_ac _ ws lo hi H0 _ hl (hv.ext hE) (fun H1 hE1 => ?_)
  simp
  apply hK; clear hK K
  obtain ⟨d0, -, -, d3⟩ := (hR.ext hE1).lds
  have hE := hE.trans hE1
  refine L_reg [1, 2, 6, 11] (fun K hK => ?_)
  simp
  apply hK; clear hK K
  unfold fitsN fitsE at h
  refine L_split rfl (fun ht => ?_) (fun hf => ?_)
  · have hne : recE ws lo hi ≠ 0 := by simpa using ht
    rw [if_neg hne, if_neg hne] at h
    refine L_reg [4, 5] (fun K hK => ?_)
    simp
    apply hK; clear hK K
    exact L_ret ⟨.inr rfl, _, rfl, h _ hE⟩
  · have he : recE ws lo hi = 0 := by simpa using hf
    rw [if_pos he] at h
    refine L_reg [1, 2, 7] (fun K hK => ?_)
    simp [okFn_low, d0]
    refine checkSize_ac ws.length k _ _ ?_
    simp
    apply hK; clear hK K
    refine L_reg [1, 2, 7, 19] (fun K hK => ?_)
    simp
    apply hK; clear hK K
    refine L_split rfl (fun ht => ?_) (fun hf => ?_)
    · have hne : sizeE ws.length k ≠ 0 := by simpa using ht
      rw [if_neg hne] at h
      refine L_reg [4, 5] (fun K hK => ?_)
      simp
      apply hK; clear hK K
      exact L_ret ⟨.inr rfl, _, rfl, h _ hE⟩
    · have he2 : sizeE ws.length k = 0 := by simpa using hf
      rw [if_pos he2, he2] at h
      obtain ⟨N, M, hN, rfl, hK1, -, -⟩ := size_ok he2
      refine L_reg [4, 5] (fun K hK => ?_)
      simp [okFn_low, d3]
      refine fitting_ac _ ws lo hi M H1 _ he (by omega) (hv.ext hE) (fun va H2 hls hone hE2 => ?_)
      obtain ⟨r2, o2, v2, z2, f2, rfl, -⟩ := hls
      simp
      apply hK; clear hK K
      exact L_ret ⟨.inr rfl, _, rfl, by simpa using h _ (hE.trans hE2)⟩
theorem rweight_q (v u : AV) (ws b : List Int) (lo hi : Int) (H : AH) (hf : Fine ws b) (hv : Ls H v ws) (hu : Ls H u b) (Q : AV → AH → Prop) (hq : Q (.int .i64 (weighS ws b)) H) : AC Try.prog 79 [.agg [v, .int .i64 lo, .int .i64 hi], u] H Q :=
  AC.quiet (belB_int _ _ _ _) (fun Q h => rweight_ac v u ws b lo hi H Q hf hv hu h) Q hq
theorem filter_take {f : List Int → Bool} {F : List (List Int)} {i : Nat} (hi : i < F.length) : ((F.take (i + 1)).filter f).length = ((F.take i).filter f).length + if f F[i] = true then 1 else 0 := by
  rw [List.take_add_one, List.getElem?_eq_getElem hi, List.filter_append]
  by_cases h : f F[i] = true <;> simp [h]
set_option maxRecDepth 100000 in
theorem rFits_ac (v : AV) (ws : List Int) (lo hi k : Int) (H : AH) (Q : AV → AH → Prop) (hl : ws.length ≤ 1000000) (hv : Ls H v ws) (h : ∀ H', Ext H H' → Q (.tuple [.int .i64 (fitsN ws lo hi k), .int .i64 (fitsE ws lo hi k)]) H') : AC Try.prog 35 [.agg [v, .int .i64 lo, .int .i64 hi], .int .i64 k] H Q := by
  obtain ⟨r, off, ver, sz, full, rfl, -⟩ := id hv
  refine L_body 50 Try.func35 rfl rfl ?_
  refine L_reg [1, 2] (fun K hK => ?_)
  simp [AV.isU, acells]
  apply hK; clear hK K
  have hE := Ext.push H [AObj.row [.slice r off ws.length ver sz full, .int .i64 lo, .int .i64 hi] 0 0 false]
  have hR := RecRow.new H (.slice r off ws.length ver sz full) lo hi 0
  obtain ⟨d0, d1, d2, d3⟩ := hR.lds
  generalize H ++ [AObj.row [.slice r off ws.length ver sz full, .int .i64 lo, .int .i64 hi] 0 0 false] = H0 at *
  generalize H.length = q at *
  refine L_reg [1, 2, 6] (fun K hK => ?_)
  simp [okFn_low, d3]
  refine rCheckRecipe_ac _ ws lo hi H0 _ hl (hv.ext hE) (fun H1 hE1 => ?_)
  simp
  apply hK; clear hK K
  have hR := hR.ext hE1
  obtain ⟨d0, -, -, d3⟩ := hR.lds
  have hE := hE.trans hE1
  have hv := hv.ext hE
  unfold fitsN fitsE at h
  by_cases he : recE ws lo hi = 0
  case neg =>
    rw [if_neg he, if_neg he] at h
    have hb : (recE ws lo hi == 0) = false := by simpa using he
    refine L_reg [1, 2, 6, 21] (fun K hK => ?_)
    simp [hb, pickV]
    apply hK; clear hK K
    refine L_false (by simp) ?_
    refine L_reg [1, 2, 6, 23] (fun K hK => ?_)
    simp
    apply hK; clear hK K
    refine L_true (by simp [he]) ?_
    refine L_reg [4, 5] (fun K hK => ?_)
    simp
    apply hK; clear hK K
    exact L_ret ⟨.inr rfl, _, rfl, h _ hE⟩
  rw [if_pos he] at h
  obtain ⟨hn1, hn, hw⟩ := rec_ok he
  have hsz : sizeE ws.length k = if k < 0 ∨ (ws.length : Int) < k then 1 else 0 := if_pos (rleaves.1 ⟨by omega, by omega⟩)
  refine L_reg [1, 2, 6, 21] (fun K hK => ?_)
  simp [okFn_low, he, d0]
  refine in_ac k 0 ws.length _ _ ?_
  simp [pickV]
  apply hK; clear hK K
  by_cases hk : 0 ≤ k ∧ k ≤ (ws.length : Int)
  case neg =>
    rw [if_pos (by omega)] at hsz
    rw [hsz, if_neg (by decide)] at h
    refine L_true (by simp; omega) ?_
    refine L_reg [1, 2, 6] (fun K hK => ?_)
    simp
    apply hK; clear hK K
    refine L_reg [1, 2, 6, 23] (fun K hK => ?_)
    simp
    apply hK; clear hK K
    refine L_true (by simp) ?_
    refine L_reg [4, 5] (fun K hK => ?_)
    simp
    apply hK; clear hK K
    exact L_ret ⟨.inr rfl, _, rfl, h _ hE⟩
  rw [if_neg (by omega)] at hsz
  rw [hsz, if_pos rfl] at h
  refine L_false (by simp [hk]) ?_
  refine L_reg [1, 2, 6, 23] (fun K hK => ?_)
  simp
  apply hK; clear hK K
  refine L_false (by simp) ?_
  refine L_reg [1, 2, 7] (fun K hK => ?_)
  simp
  apply hK; clear hK K
  obtain ⟨M, rfl⟩ : ∃ M : Nat, k = (M : Int) := ⟨k.toNat, by omega⟩
  have hM : M ≤ ws.length := by omega
  refine L_reg [2, 7, 8] (fun K hK => ?_)
  simp [okFn_low, d0]
  refine rround_ac ws.length M hM hn H1 _ (fun vF H2 hRn hE2 => ?_)
  simp
  apply hK; clear hK K
  have hR := hR.ext hE2
  obtain ⟨-, d1, d2, d3⟩ := hR.lds
  have hE := hE.trans hE2
  have hv := hv.ext hE2
  have hFo : ∀ x ∈ roundS ws.length M, Okb ws.length x := fun x hx => okb_round hx
  have hFn := round_le2 (n := ws.length) (k := M) hn
  obtain ⟨rF, vrF, rfl, hget⟩ := hRn.get
  simp only [Int.toNat_natCast] at h
  generalize roundS ws.length M = F at *
  refine L_reg [2, 7, 8, 9] (fun K hK => ?_)
  simp
  apply hK; clear hK K
  refine L_block (L_loopV [7, 9] (fun k vs H' => ∃ i : Nat, k = F.length - i ∧ i ≤ F.length ∧ vs = [.int .i64 ((F.take i).filter (fitB ws lo hi)).length, .int .i64 i] ∧ H2 = H') _ [.int .i64 (0 : Nat), .int .i64 (0 : Nat)] rfl ⟨0, rfl, by omega, rfl, rfl⟩ ?_)
  rintro _ _ _ ⟨i, rfl, hiF, rfl, rfl⟩
  refine L_reg [2, 7, 8, 9, 33] (fun K hK => ?_)
  simp
  apply hK; clear hK K
  refine L_dec (i < F.length) (by simp) (fun hlt => ?_) (fun hge => L_exit ?_)
  · obtain ⟨w, hw1, hw2⟩ := hget i hlt
    have hok := hFo _ (List.getElem_mem hlt)
    have hft := filter_take (f := fitB ws lo hi) hlt
    have hle := List.length_filter_le (fitB ws lo hi) (F.take i)
    have hlt2 : (F.take i).length ≤ i := by simp; omega
    generalize F[i] = x at *
    refine L_block ?_
    refine L_regY mixed [2, 7, 8, 9, 46] (by kernel_rfl) (fun K hK => ?_)
    simp [okFn_low, d3, hlt, hw1]
    refine exX_mk (fun Q hQ => rweight_q _ w ws x lo hi H2 (fine_of he hok) hv hw2 Q hQ) (.refl _) ?_
    simp [okFn_low, d1, d2]
    refine exX_mk (fun Q hQ => in_ac (weighS ws x) lo hi H2 Q hQ) (.refl _) ?_
    simp
    apply hK; clear hK K
    by_cases hf : fitB ws lo hi x = true
    · have hf' : lo ≤ weighS ws x ∧ weighS ws x ≤ hi := by simpa [fitB] using hf
      refine L_true (by simp [hf']) ?_
      rw [if_pos hf] at hft
      refine L_reg [2, 7, 8, 9] (fun K hK => ?_)
      simp [wrap_i64 (a := (((F.take i).filter (fitB ws lo hi)).length : Int) + 1) (by omega)]
      apply hK; clear hK K
      refine L_reg [2, 7, 8, 9] (fun K hK => ?_)
      simp [wrap_i64 (a := (i : Int) + 1) (by omega)]
      apply hK; clear hK K
      exact ⟨F.length - (i + 1), [.int .i64 (((F.take i).filter (fitB ws lo hi)).length + 1 : Nat), .int .i64 (i + 1 : Nat)], by omega, by simp, i + 1, rfl, by omega, by rw [hft], rfl⟩
    · have hf' : ¬ (lo ≤ weighS ws x ∧ weighS ws x ≤ hi) := by simpa [fitB] using hf
      refine L_false (by simp; omega) ?_
      rw [if_neg hf] at hft
      refine L_reg [2, 7, 8, 9] (fun K hK => ?_)
      simp [wrap_i64 (a := (i : Int) + 1) (by omega)]
      apply hK; clear hK K
      exact ⟨F.length - (i + 1), [.int .i64 ((F.take i).filter (fitB ws lo hi)).length, .int .i64 (i + 1 : Nat)], by omega, by simp, i + 1, rfl, by omega, by rw [hft]; rfl, rfl⟩
  · obtain rfl : i = F.length := by omega
    rw [List.take_length]
    refine L_reg [4, 5] (fun K hK => ?_)
    simp
    apply hK; clear hK K
    exact L_ret ⟨.inr rfl, _, rfl, h _ hE⟩
end Go.Proofs.Ytmoifofihafgmaa

/- BlendRecipes, walked. -/
namespace Go.Proofs.Ytmoifofihafgmaa
open Go Go.Proofs.Ytmoifofihafgmaa.AX

theorem zt44 : zeroT Try.prog 44 = some [.slice none 0 0 0 1 false, .int .i64 0, .int .i64 0] := by kernel_rfl
theorem CheckRecipe_q (v : AV) (ws : List Int) (lo hi : Int) (H : AH) (hl : ws.length ≤ 1000000) (hv : Ls H v ws) (Q : AV → AH → Prop) (h : Q (.int .i64 (recE ws lo hi)) H) : AC Try.prog 36 [.agg [v, .int .i64 lo, .int .i64 hi]] H Q :=
  AC.quiet (belB_int _ _ _ _) (fun Q h => CheckRecipe_ac v ws lo hi H Q hl hv h) Q h
theorem rCheckRecipe_q (v : AV) (ws : List Int) (lo hi : Int) (H : AH) (hl : ws.length ≤ 1000000) (hv : Ls H v ws) (Q : AV → AH → Prop) (h : Q (.int .i64 (recE ws lo hi)) H) : AC Try.prog 37 [.agg [v, .int .i64 lo, .int .i64 hi]] H Q :=
  AC.quiet (belB_int _ _ _ _) (fun Q h => rCheckRecipe_ac v ws lo hi H Q hl hv h) Q h
set_option maxRecDepth 100000 in
theorem blendRecipes_ac (vw vb : AV) (ws b : List Int) (lo hi k : Int) (H : AH) (hw : Ls H vw ws) (hb : Ls H vb b) : AC Try.prog 5 [.agg [vw, .int .i64 lo, .int .i64 hi], vb, .int .i64 k] H fun u _ => u = .bool true := by
  obtain ⟨r, off, ver, sz, full, rfl, -⟩ := id hw
  obtain ⟨r2, off2, ver2, sz2, full2, rfl, -⟩ := id hb
  refine L_body 75 Try.func5 rfl rfl ?_
  refine L_reg [1, 2, 3] (fun K hK => ?_)
  simp [AV.isU, acells]
  apply hK; clear hK K
  have hE := Ext.push H [AObj.row [.slice r off ws.length ver sz full, .int .i64 lo, .int .i64 hi] 0 0 false]
  have hR := RecRow.new H (.slice r off ws.length ver sz full) lo hi 0
  have hw := hw.ext hE
  have hb := hb.ext hE
  generalize H ++ [AObj.row [.slice r off ws.length ver sz full, .int .i64 lo, .int .i64 hi] 0 0 false] = Ha at *
  generalize H.length = q at *
  obtain ⟨d0, -⟩ := hR.lds
  have hrow := row37_2 Ha (x := .slice r off ws.length ver sz full) (y := .slice r2 off2 b.length ver2 sz2 full2) rfl rfl rfl rfl
  have hE0 : Ext Ha (Ha ++ [AObj.row [.slice r off ws.length ver sz full, .slice r2 off2 b.length ver2 sz2 full2] 0 2 false]) := .push _ _
  have hr0 : (Ha ++ [AObj.row [.slice r off ws.length ver sz full, .slice r2 off2 b.length ver2 sz2 full2] 0 2 false])[Ha.length]? = some (.row [.slice r off ws.length ver sz full, .slice r2 off2 b.length ver2 sz2 full2] 0 2 false) := by simp
  have hw := hw.ext hE0
  have hb := hb.ext hE0
  have hR := hR.ext hE0
  generalize Ha ++ [AObj.row [.slice r off ws.length ver sz full, .slice r2 off2 b.length ver2 sz2 full2] 0 2 false] = H0 at *
  have hlss : Lss H0 (.slice (some Ha.length) 0 2 0 1 false) [ws, b] := by
    refine ⟨some Ha.length, 0, 0, 1, false, rfl, fun i hi => ?_⟩
    have : i = 0 ∨ i = 1 := by simp at hi; omega
    rcases this with rfl | rfl
    · exact ⟨Ha.length, _, rfl, rfl, by rw [ld_row hr0]; rfl, hw⟩
    · exact ⟨Ha.length, _, rfl, rfl, by rw [ld_row hr0]; rfl, hb⟩
  refine L_reg [1, 2, 3, 20] (fun K hK => ?_)
  simp [okFn_low, d0, hrow]
  refine larges_ac [ws, b] _ H0 _ (by simp) hlss ?_
  simp
  apply hK; clear hK K
  by_cases hbig : 60 < ws.length ∨ 60 < b.length
  · refine L_true (by simp; omega) ?_
    refine L_reg [6] (fun K hK => ?_)
    simp [okFn_low]
    refine works_ac _ _ ?_
    simp
    apply hK; clear hK K
    exact L_ret ⟨.inr rfl, _, rfl, rfl⟩
  refine L_false (by simp; omega) ?_
  have hwl : ws.length ≤ 1000000 := by omega
  have hbl : b.length ≤ 1000000 := by omega
  obtain ⟨-, -, -, d3⟩ := hR.lds
  have hrz : (H0 ++ [AObj.row [.slice none 0 0 0 1 false, .int .i64 0, .int .i64 0] 0 0 false])[H0.length]? = some (.row [.slice none 0 0 0 1 false, .int .i64 0, .int .i64 0] 0 0 false) := by simp
  have hst := store_agg ag44 (vs := [.slice r off ws.length ver sz full, .int .i64 lo, .int .i64 hi]) hrz (by decide) rfl (by simp) rfl (by simp [AV.one])
  have hEs : Ext H0 ((H0 ++ [AObj.row [.slice none 0 0 0 1 false, .int .i64 0, .int .i64 0] 0 0 false]).set H0.length (.row [.slice r off ws.length ver sz full, .int .i64 lo, .int .i64 hi] 0 0 false)) := (Ext.push _ _).set _ (Nat.le_refl _)
  have hR2 : RecRow ((H0 ++ [AObj.row [.slice none 0 0 0 1 false, .int .i64 0, .int .i64 0] 0 0 false]).set H0.length (.row [.slice r off ws.length ver sz full, .int .i64 lo, .int .i64 hi] 0 0 false)) H0.length (.slice r off ws.length ver sz full) lo hi := ⟨0, get_set hrz⟩
  have hw := hw.ext hEs
  have hb := hb.ext hEs
  have hR := hR.ext hEs
  generalize hH1 : (H0 ++ [AObj.row [.slice none 0 0 0 1 false, .int .i64 0, .int .i64 0] 0 0 false]).set H0.length (.row [.slice r off ws.length ver sz full, .int .i64 lo, .int .i64 hi] 0 0 false) = H1 at *
  refine L_reg [1, 2, 3, 7] (fun K hK => ?_)
  simp [d3, alloc_z zt44, hst]
  apply hK; clear hK K
  clear hst hrz hH1 hEs
  generalize H0.length = q2 at *
  obtain ⟨-, -, -, d3⟩ := hR.lds
  obtain ⟨-, -, -, f3⟩ := hR2.lds
  refine L_reg [1, 2, 3, 7, 8, 9] (fun K hK => ?_)
  simp [okFn_low, d3]
  refine Weight_ac _ _ ws b lo hi H1 _ hwl hbl hw hb (fun H2 hE2 => ?_)
  simp
  apply hK; clear hK K
  have hw := hw.ext hE2
  have hb := hb.ext hE2
  have hR := hR.ext hE2
  have hR2 := hR2.ext hE2
  obtain ⟨-, -, -, d3⟩ := hR.lds
  obtain ⟨-, -, -, f3⟩ := hR2.lds
  refine L_reg [2, 3, 7, 8, 9, 10, 11] (fun K hK => ?_)
  simp [okFn_low, f3]
  refine rWeight_ac _ _ ws b lo hi H2 _ hwl hbl hw hb (fun H3 hE3 => ?_)
  simp
  apply hK; clear hK K
  have hw := hw.ext hE3
  have hR := hR.ext hE3
  have hR2 := hR2.ext hE3
  obtain ⟨-, -, -, d3⟩ := hR.lds
  refine L_reg [2, 3, 7, 8, 9, 10, 11, 12, 13] (fun K hK => ?_)
  simp [okFn_low, d3]
  refine Fits_ac _ ws lo hi k H3 _ hwl hw (fun H4 hE4 => ?_)
  simp
  apply hK; clear hK K
  have hw := hw.ext hE4
  have hR := hR.ext hE4
  have hR2 := hR2.ext hE4
  obtain ⟨-, -, -, f3⟩ := hR2.lds
  refine L_reg [3, 7, 8, 9, 10, 11, 12, 13, 14, 15] (fun K hK => ?_)
  simp [okFn_low, f3]
  refine rFits_ac _ ws lo hi k H4 _ hwl hw (fun H5 hE5 => ?_)
  simp
  apply hK; clear hK K
  have hw := hw.ext hE5
  obtain ⟨-, -, -, d3⟩ := (hR.ext hE5).lds
  obtain ⟨-, -, -, f3⟩ := (hR2.ext hE5).lds
  refine L_regY mixed [6] (by kernel_rfl) (fun K hK => ?_)
  simp [okFn_low, pickV, d3]
  refine exX_mk (fun Q hQ => CheckRecipe_q _ ws lo hi H5 hwl hw Q hQ) (.refl _) ?_
  simp [okFn_low, f3]
  refine exX_mk (fun Q hQ => rCheckRecipe_q _ ws lo hi H5 hwl hw Q hQ) (.refl _) ?_
  simp [okFn_low, pickV]
  refine exX_mk (fun Q hQ => works_ac H5 Q hQ) (.refl _) ?_
  simp [pickV]
  apply hK; clear hK K
  exact L_ret ⟨.inr rfl, _, rfl, rfl⟩
end Go.Proofs.Ytmoifofihafgmaa

/- The nearest blend: how two are compared. -/
namespace Go.Proofs.Ytmoifofihafgmaa
open Go Go.Proofs.Ytmoifofihafgmaa.AX

def cmpS (a b : Int) : Int := if a < b then -1 else if b < a then 1 else 0
theorem Cmp_ac (a b : Int) (H : AH) (Q : AV → AH → Prop) (h : Q (.int .i64 (cmpS a b)) H) : AC Try.prog 84 [.int .i64 a, .int .i64 b] H Q := by
  unfold cmpS at h
  refine L_body 20 Try.func84 rfl rfl ?_
  refine L_reg [0, 1] (fun K hK => ?_)
  simp
  apply hK; clear hK K
  refine L_reg [0, 1, 5] (fun K hK => ?_)
  simp [okFn_low]
  refine isNaN_ac a _ _ ?_
  simp
  apply hK; clear hK K
  refine L_reg [0, 1, 5, 6] (fun K hK => ?_)
  simp [okFn_low]
  refine isNaN_ac b _ _ ?_
  simp
  apply hK; clear hK K
  refine L_reg [0, 1, 6, 11] (fun K hK => ?_)
  simp
  apply hK; clear hK K
  refine L_false (by simp) ?_
  refine L_reg [0, 1, 13] (fun K hK => ?_)
  simp
  apply hK; clear hK K
  refine L_false (by simp) ?_
  refine L_reg [0, 1, 16] (fun K hK => ?_)
  simp
  apply hK; clear hK K
  refine L_dec (a < b) rfl (fun h1 => ?_) (fun h1 => ?_)
  · rw [if_pos h1] at h
    refine L_reg [4] (fun K hK => ?_)
    simp
    apply hK; clear hK K
    exact L_ret ⟨.inr rfl, _, rfl, h⟩
  · rw [if_neg h1] at h
    refine L_reg [19] (fun K hK => ?_)
    simp
    apply hK; clear hK K
    refine L_dec (b < a) rfl (fun h2 => ?_) (fun h2 => ?_)
    · rw [if_pos h2] at h
      refine L_reg [4] (fun K hK => ?_)
      simp
      apply hK; clear hK K
      exact L_ret ⟨.inr rfl, _, rfl, h⟩
    · rw [if_neg h2] at h
      refine L_reg [4] (fun K hK => ?_)
      simp
      apply hK; clear hK K
      exact L_ret ⟨.inr rfl, _, rfl, h⟩
def lexS : List Int → List Int → Int
  | [], [] => 0
  | [], _ :: _ => -1
  | _ :: _, [] => 1
  | x :: l, y :: m => if cmpS x y = 0 then lexS l m else cmpS x y
theorem lexS_drop {l m : List Int} {i : Nat} (hi : i < l.length) (hj : i < m.length) : lexS (l.drop i) (m.drop i) = if cmpS l[i] m[i] = 0 then lexS (l.drop (i + 1)) (m.drop (i + 1)) else cmpS l[i] m[i] := by
  rw [List.drop_eq_getElem_cons hi, List.drop_eq_getElem_cons hj]; rfl
theorem lexS_right {l m : List Int} {i : Nat} (hi : i < l.length) (hj : m.length ≤ i) : lexS (l.drop i) (m.drop i) = 1 := by
  rw [List.drop_eq_getElem_cons hi, List.drop_eq_nil_of_le hj]; rfl
set_option maxRecDepth 100000 in
theorem Compare_ac (u v : AV) (l m : List Int) (H : AH) (Q : AV → AH → Prop) (hl : l.length ≤ 1000000) (hm : m.length ≤ 1000000) (hu : Ls H u l) (hv : Ls H v m) (h : Q (.int .i64 (lexS l m)) H) : AC Try.prog 53 [u, v] H Q := by
  obtain ⟨r, off, ver, sz, full, rfl, hld⟩ := hu
  obtain ⟨r2, off2, ver2, sz2, full2, rfl, hld2⟩ := hv
  refine L_body 36 Try.func53 rfl rfl ?_
  refine L_reg [0, 1] (fun K hK => ?_)
  simp
  apply hK; clear hK K
  refine L_reg [0, 1, 9, 10, 11] (fun K hK => ?_)
  simp
  apply hK; clear hK K
  refine L_block (L_loopV [11] (fun k vs H' => ∃ (i : Nat), k = l.length - i ∧ i ≤ l.length ∧ i ≤ m.length ∧ lexS l m = lexS (l.drop i) (m.drop i) ∧ vs = [.int .i64 i] ∧ H = H') _ [.int .i64 (0 : Nat)] rfl ⟨0, rfl, by omega, by omega, rfl, rfl, rfl⟩ ?_)
  rintro k _ _ ⟨i, rfl, hi, him, hx, rfl, rfl⟩
  refine L_reg [0, 1, 9, 10, 11, 12] (fun K hK => ?_)
  simp
  apply hK; clear hK K
  refine L_dec (i < l.length) (by simp) (fun hlt => ?_) (fun hge => L_exit ?_)
  · obtain ⟨r', rfl, rfl, hrd⟩ := hld i hlt
    refine L_block ?_
    refine L_reg [0, 1, 5, 6, 9, 10, 11] (fun K hK => ?_)
    simp [hlt, hrd]
    apply hK; clear hK K
    refine L_reg [0, 1, 5, 6, 9, 10, 11, 19] (fun K hK => ?_)
    simp
    apply hK; clear hK K
    refine L_dec (m.length ≤ i) rfl (fun h1 => ?_) (fun h1 => ?_)
    · rw [lexS_right hlt (by omega)] at hx
      refine L_reg [4] (fun K hK => ?_)
      simp
      apply hK; clear hK K
      exact L_ret ⟨.inr rfl, _, rfl, by rw [hx] at h; exact h⟩
    · have hlt2 : i < m.length := by omega
      obtain ⟨r3, rfl, rfl, hrd2⟩ := hld2 i hlt2
      rw [lexS_drop hlt hlt2] at hx
      refine L_reg [0, 1, 6, 7, 9, 10, 11] (fun K hK => ?_)
      simp [hlt2, hrd2]
      apply hK; clear hK K
      refine L_reg [0, 1, 8, 9, 10, 11] (fun K hK => ?_)
      simp [okFn_low]
      refine Cmp_ac l[i] m[i] _ _ ?_
      simp
      apply hK; clear hK K
      generalize cmpS l[i] m[i] = c at hx ⊢
      refine L_reg [0, 1, 8, 9, 10, 11, 28] (fun K hK => ?_)
      simp
      apply hK; clear hK K
      by_cases hc : c = 0
      · rw [if_pos hc] at hx
        refine L_false (by simp [hc]) ?_
        refine L_reg [0, 1, 9, 10, 11] (fun K hK => ?_)
        simp [wrap_i64 (a := (i : Int) + 1) (by omega)]
        apply hK; clear hK K
        exact ⟨l.length - (i + 1), [.int .i64 (i + 1 : Nat)], by omega, by simp, i + 1, rfl, by omega, by omega, hx, rfl, rfl⟩
      · rw [if_neg hc] at hx
        refine L_true (by simp [hc]) ?_
        refine L_reg [4] (fun K hK => ?_)
        simp
        apply hK; clear hK K
        exact L_ret ⟨.inr rfl, _, rfl, by rw [hx] at h; exact h⟩
  · obtain rfl : i = l.length := by omega
    rw [List.drop_length] at hx
    refine L_reg [35] (fun K hK => ?_)
    simp
    apply hK; clear hK K
    refine L_dec (l.length < m.length) rfl (fun h1 => ?_) (fun h1 => ?_)
    · rw [List.drop_eq_getElem_cons (by omega : l.length < m.length)] at hx
      refine L_reg [4] (fun K hK => ?_)
      simp
      apply hK; clear hK K
      exact L_ret ⟨.inr rfl, _, rfl, by rw [hx] at h; exact h⟩
    · rw [List.drop_eq_nil_of_le (by omega)] at hx
      refine L_reg [4] (fun K hK => ?_)
      simp
      apply hK; clear hK K
      exact L_ret ⟨.inr rfl, _, rfl, by rw [hx] at h; exact h⟩
set_option maxRecDepth 100000 in
theorem Or_ac (a b : Int) (q s : Nat) (H : AH) (Q : AV → AH → Prop) (hq : H[q]? = some (.row [.int .i64 a, .int .i64 b] 0 s false)) (h : Q (.int .i64 (if a = 0 then b else a)) H) : AC Try.prog 83 [.slice (some q) 0 2 0 1 false] H Q := by
  have e0 : ld H q 0 0 = some (.int .i64 a) := by rw [ld_row hq]; rfl
  have e1 : ld H q 1 0 = some (.int .i64 b) := by rw [ld_row hq]; rfl
  refine L_body 18 Try.func83 rfl rfl ?_
  refine L_reg [0] (fun K hK => ?_)
  simp
  apply hK; clear hK K
  refine L_reg [0, 3] (fun K hK => ?_)
  simp
  apply hK; clear hK K
  refine L_reg [3, 6, 7, 8] (fun K hK => ?_)
  simp
  apply hK; clear hK K
  refine L_block (L_loopV [8] (fun k vs H' => ∃ (i : Nat), k = 2 - i ∧ i ≤ 2 ∧ (1 ≤ i → a = 0) ∧ (2 ≤ i → b = 0) ∧ vs = [.int .i64 i] ∧ H = H') _ [.int .i64 (0 : Nat)] rfl ⟨0, rfl, by omega, by omega, by omega, rfl, rfl⟩ ?_)
  rintro k _ _ ⟨i, rfl, hi, ha, hb, rfl, rfl⟩
  refine L_reg [3, 6, 7, 8, 9] (fun K hK => ?_)
  simp
  apply hK; clear hK K
  refine L_dec ((i : Int) < 2) rfl (fun hlt => ?_) (fun hge => L_exit ?_)
  · refine L_block ?_
    have hi' : i = 0 ∨ i = 1 := by omega
    rcases hi' with rfl | rfl
    · refine L_reg [3, 5, 6, 7, 8] (fun K hK => ?_)
      simp [e0]
      apply hK; clear hK K
      refine L_reg [3, 5, 6, 7, 8, 14] (fun K hK => ?_)
      simp
      apply hK; clear hK K
      by_cases h0 : a = 0
      · refine L_false (by simp [h0]) ?_
        refine L_reg [3, 6, 7, 8] (fun K hK => ?_)
        simp [wrap_i64 (a := 1) (by omega)]
        apply hK; clear hK K
        exact ⟨1, [.int .i64 (1 : Nat)], by omega, by simp, 1, rfl, by omega, fun _ => h0, by omega, rfl, rfl⟩
      · refine L_true (by simp [h0]) ?_
        rw [if_neg h0] at h
        refine L_reg [2] (fun K hK => ?_)
        simp
        apply hK; clear hK K
        exact L_ret ⟨.inr rfl, _, rfl, h⟩
    · rw [if_pos (ha (by omega))] at h
      refine L_reg [3, 5, 6, 7, 8] (fun K hK => ?_)
      simp [e1]
      apply hK; clear hK K
      refine L_reg [3, 5, 6, 7, 8, 14] (fun K hK => ?_)
      simp
      apply hK; clear hK K
      by_cases h0 : b = 0
      · refine L_false (by simp [h0]) ?_
        refine L_reg [3, 6, 7, 8] (fun K hK => ?_)
        simp [wrap_i64 (a := 2) (by omega)]
        apply hK; clear hK K
        exact ⟨0, [.int .i64 (2 : Nat)], by omega, by simp, 2, rfl, by omega, fun _ => ha (by omega), fun _ => h0, rfl, rfl⟩
      · refine L_true (by simp [h0]) ?_
        refine L_reg [2] (fun K hK => ?_)
        simp
        apply hK; clear hK K
        exact L_ret ⟨.inr rfl, _, rfl, h⟩
  · rw [if_pos (ha (by omega)), hb (by omega)] at h
    refine L_reg [2] (fun K hK => ?_)
    simp
    apply hK; clear hK K
    exact L_ret ⟨.inr rfl, _, rfl, h⟩
def nearC (b a c : List Int) : Int := if cmpS (lack b a).length (lack b c).length = 0 then lexS a c else cmpS (lack b a).length (lack b c).length
theorem distance_q (u v : AV) (a b : List Int) (H : AH) (ha : a.length ≤ 1000000) (hb : b.length ≤ 1000000) (hu : Ls H u a) (hv : Ls H v b) (Q : AV → AH → Prop) (h : Q (.int .i64 (lack a b).length) H) : AC Try.prog 71 [u, v] H Q :=
  AC.quiet (belB_int _ _ _ _) (fun Q h => distance_ac u v a b H Q ha hb hu hv h) Q h
set_option maxRecDepth 100000 in
theorem near1_ac (u v : AV) (a c b : List Int) (q s : Nat) (vb : AV) (H : AH) (Q : AV → AH → Prop) (ha : a.length ≤ 1000000) (hc : c.length ≤ 1000000) (hb : b.length ≤ 1000000) (hu : Ls H u a) (hv : Ls H v c) (hq : H[q]? = some (.row [vb] 0 s false)) (hvb : Ls H vb b) (h : ∀ H', Ext H H' → Q (.int .i64 (nearC b a c)) H') : AC Try.prog 82 [u, v, .ptr q 0 0] H Q := by
  obtain ⟨r0, off0, ver0, sz0, full0, rfl, -⟩ := id hvb
  have eq : ld H q 0 0 = some (.slice r0 off0 b.length ver0 sz0 full0) := by rw [ld_row hq]; rfl
  refine L_body 18 Try.func82 rfl rfl ?_
  refine L_reg [0, 1, 2] (fun K hK => ?_)
  simp
  apply hK; clear hK K
  have hE : Ext H (H ++ [AObj.row [.int .i64 (cmpS (lack b a).length (lack b c).length), .int .i64 (lexS a c)] 0 2 false]) := .push _ _
  have hrow : rowV Try.prog 22 2 [(0, .int .i64 (cmpS (lack b a).length (lack b c).length)), (1, .int .i64 (lexS a c))] H = some (some (.slice (some H.length) 0 2 0 1 false), H ++ [.row [.int .i64 (cmpS (lack b a).length (lack b c).length), .int .i64 (lexS a c)] 0 2 false]) := by
    obtain ⟨e, I, h1, h2, h3, h4, hzz⟩ := elT_some el22
    simp [rowV, h1, h2, h3, aFill, AV.isU, acells, hzz, List.range_succ]
  refine L_regY mixed [5] (by kernel_rfl) (fun K hK => ?_)
  simp [okFn_low, eq]
  refine exX_mk (fun Q hQ => distance_q _ u b a H hb ha hvb hu Q hQ) (.refl _) ?_
  simp [okFn_low, eq]
  refine exX_mk (fun Q hQ => distance_q _ v b c H hb hc hvb hv Q hQ) (.refl _) ?_
  simp [okFn_low]
  refine exX_mk (fun Q hQ => Cmp_ac (lack b a).length (lack b c).length H Q hQ) (.refl _) ?_
  simp [okFn_low]
  refine exX_mk (fun Q hQ => Compare_ac u v a c H Q ha hc hu hv hQ) (.refl _) ?_
  simp [hrow, okFn_low]
  refine exX_mk (fun Q hQ => Or_ac (cmpS (lack b a).length (lack b c).length) (lexS a c) H.length 2 _ Q (by simp) hQ) (.refl _) ?_
  simp
  apply hK; clear hK K
  exact L_ret ⟨.inr rfl, _, rfl, h _ hE⟩
end Go.Proofs.Ytmoifofihafgmaa

/- The nearest blend. -/
namespace Go.Proofs.Ytmoifofihafgmaa
open Go Go.Proofs.Ytmoifofihafgmaa.AX

def nearer (b m x : List Int) : List Int := if nearC b x m < 0 then x else m
def bestS (b : List Int) : List (List Int) → Option (List Int)
  | [] => none
  | x :: l => some (l.foldl (nearer b) x)
theorem fold_take {b x : List Int} {l : List (List Int)} {i : Nat} (hi : i < l.length) : (l.take (i + 1)).foldl (nearer b) x = nearer b ((l.take i).foldl (nearer b) x) l[i] := by
  rw [List.take_add_one, List.getElem?_eq_getElem hi, List.foldl_append]; rfl
set_option maxRecDepth 100000 in
theorem MinFunc_ac (vF : AV) (x0 : List Int) (F : List (List Int)) (b : List Int) (q s : Nat) (vb : AV) (H : AH) (Q : AV → AH → Prop) (hF : F.length ≤ 100000) (hx : ∀ x ∈ x0 :: F, x.length ≤ 1000000) (hv : Lss H vF (x0 :: F)) (hb : b.length ≤ 1000000) (hq : H[q]? = some (.row [vb] 0 s false)) (hvb : Ls H vb b)
    (h : ∀ w H', Ls H' w (F.foldl (nearer b) x0) → Ext H H' → Q w H') : AC Try.prog 81 [vF, .func (.func 82) [] [.ptr q 0 0]] H Q := by
  obtain ⟨r, off, ver, sz, full, rfl, hld⟩ := hv
  refine L_body 33 Try.func81 rfl rfl ?_
  refine L_reg [0, 1] (fun K hK => ?_)
  simp
  apply hK; clear hK K
  refine L_reg [0, 1, 9] (fun K hK => ?_)
  simp
  apply hK; clear hK K
  refine L_false (by simp; omega) ?_
  obtain ⟨r', w0, rfl, rfl, hrd, hw0⟩ := hld 0 (by simp)
  rw [Nat.add_zero] at hrd
  refine L_reg [0, 1, 5] (fun K hK => ?_)
  simp [hrd]
  apply hK; clear hK K
  refine L_reg [0, 1, 5, 6] (fun K hK => ?_)
  simp
  apply hK; clear hK K
  refine L_block (L_loopV [5, 6] (fun k vs H' => ∃ (i : Nat) (w : AV) (m : List Int), k = F.length - i ∧ i ≤ F.length ∧ m = (F.take i).foldl (nearer b) x0 ∧ m ∈ x0 :: F ∧ Ls H' w m ∧ Ext H H' ∧ vs = [w, .int .i64 ((i : Int) + 1)]) _ [w0, .int .i64 1] rfl ⟨0, w0, x0, rfl, by omega, rfl, by simp, by simpa using hw0, .refl H, rfl⟩ ?_)
  rintro _ _ H1 ⟨i, w, m, rfl, hi, hm, hmem, hw, hE, rfl⟩
  refine L_reg [0, 1, 5, 6, 17] (fun K hK => ?_)
  simp
  apply hK; clear hK K
  refine L_dec (i < F.length) (by simp) (fun hlt => ?_) (fun hge => L_exit ?_)
  · obtain ⟨r2, w2, e2, -, hrd2, hw2⟩ := hld (i + 1) (by simp; omega)
    obtain rfl := Option.some.inj e2
    have hrd2 := hE.ld hrd2
    have hw2 := hw2.ext hE
    simp only [List.getElem_cons_succ] at hw2
    have hft := fold_take (b := b) (x := x0) hlt
    rw [← hm] at hft
    have hxi : F[i] ∈ x0 :: F := List.mem_cons_of_mem _ (List.getElem_mem hlt)
    generalize F[i] = x at *
    have hi1 : ((i : Int) + 1).toNat = i + 1 := by omega
    refine L_block ?_
    refine L_reg [0, 1, 5, 6, 27] (fun K hK => ?_)
    simp [okFn_low, hrd2, hi1, hlt, show (0 : Int) ≤ (i : Int) + 1 by omega]
    refine near1_ac w2 w x m b q s vb H1 _ (hx _ hxi) (hx _ hmem) hb hw2 hw (hE.row hq) (hvb.ext hE) (fun H2 hE2 => ?_)
    simp
    apply hK; clear hK K
    have hE := hE.trans hE2
    have hrd2 := hE2.ld hrd2
    refine L_dec (nearC b x m < 0) rfl (fun h1 => ?_) (fun h1 => ?_)
    · have hn : nearer b m x = x := if_pos h1
      refine L_reg [0, 1, 5, 6] (fun K hK => ?_)
      simp [hrd2, hi1, hlt, show (0 : Int) ≤ (i : Int) + 1 by omega]
      apply hK; clear hK K
      refine L_reg [0, 1, 5, 6] (fun K hK => ?_)
      simp [wrap_i64 (a := (i : Int) + 1 + 1) (by omega)]
      apply hK; clear hK K
      exact ⟨F.length - (i + 1), [w2, .int .i64 ((i : Int) + 1 + 1)], by omega, by simp, i + 1, w2, x, rfl, by omega, by rw [hft, hn], hxi, hw2.ext hE2, hE, by simp⟩
    · have hn : nearer b m x = m := if_neg h1
      refine L_reg [0, 1, 5, 6] (fun K hK => ?_)
      simp [wrap_i64 (a := (i : Int) + 1 + 1) (by omega)]
      apply hK; clear hK K
      exact ⟨F.length - (i + 1), [w, .int .i64 ((i : Int) + 1 + 1)], by omega, by simp, i + 1, w, m, rfl, by omega, by rw [hft, hn], hmem, hw.ext hE2, hE, by simp⟩
  · obtain rfl : i = F.length := by omega
    rw [List.take_length] at hm
    subst hm
    refine L_reg [4] (fun K hK => ?_)
    simp
    apply hK; clear hK K
    exact L_ret ⟨.inr rfl, _, rfl, h _ _ hw hE⟩
def nearE (ws : List Int) (lo hi : Int) (b : List Int) : Int := if withE ws lo hi b = 0 then (if ((roundS ws.length b.length).filter (fitB ws lo hi)) = [] then 12 else 0) else withE ws lo hi b
def nearS (ws : List Int) (lo hi : Int) (b : List Int) : List Int := if withE ws lo hi b = 0 then (bestS b ((roundS ws.length b.length).filter (fitB ws lo hi))).getD [] else []
set_option maxRecDepth 100000 in
theorem Nearest_ac (v u : AV) (ws b : List Int) (lo hi : Int) (H : AH) (Q : AV → AH → Prop) (hl : ws.length ≤ 1000000) (hb : b.length ≤ 1000000) (hv : Ls H v ws) (hu : Ls H u b) (h : ∀ w H', Ls H' w (nearS ws lo hi b) → Ext H H' → Q (.tuple [w, .int .i64 (nearE ws lo hi b)]) H') : AC Try.prog 38 [.agg [v, .int .i64 lo, .int .i64 hi], u] H Q := by
  obtain ⟨r, off, ver, sz, full, rfl, -⟩ := id hv
  obtain ⟨r2, off2, ver2, sz2, full2, rfl, -⟩ := id hu
  refine L_body 24 Try.func38 rfl rfl ?_
  refine L_reg [2, 3] (fun K hK => ?_)
  simp [AV.isU, acells]
  apply hK; clear hK K
  have hE := Ext.push H [AObj.row [.slice r off ws.length ver sz full, .int .i64 lo, .int .i64 hi] 0 0 false, .row [.slice r2 off2 b.length ver2 sz2 full2] 0 0 false]
  have hR : RecRow (H ++ [AObj.row [.slice r off ws.length ver sz full, .int .i64 lo, .int .i64 hi] 0 0 false, .row [.slice r2 off2 b.length ver2 sz2 full2] 0 0 false]) H.length (.slice r off ws.length ver sz full) lo hi := ⟨0, by simp⟩
  have hB : (H ++ [AObj.row [.slice r off ws.length ver sz full, .int .i64 lo, .int .i64 hi] 0 0 false, .row [.slice r2 off2 b.length ver2 sz2 full2] 0 0 false])[H.length + 1]? = some (.row [.slice r2 off2 b.length ver2 sz2 full2] 0 0 false) := by simp
  have hv := hv.ext hE
  have hu := hu.ext hE
  generalize H ++ [AObj.row [.slice r off ws.length ver sz full, .int .i64 lo, .int .i64 hi] 0 0 false, .row [.slice r2 off2 b.length ver2 sz2 full2] 0 0 false] = H0 at *
  generalize H.length = q at *
  obtain ⟨-, -, -, d3⟩ := hR.lds
  have eb : ld H0 (q + 1) 0 0 = some (.slice r2 off2 b.length ver2 sz2 full2) := by rw [ld_row hB]; rfl
  refine L_reg [2, 3, 6] (fun K hK => ?_)
  simp [okFn_low, d3, eb]
  refine checkWith_ac _ _ ws b lo hi H0 _ hl hb hv hu (fun H1 hE1 => ?_)
  simp
  apply hK; clear hK K
  have hv := hv.ext hE1
  have hu := hu.ext hE1
  have hB := hE1.row hB
  have eb := hE1.ld eb
  obtain ⟨-, -, -, d3⟩ := (hR.ext hE1).lds
  have hE := hE.trans hE1
  refine L_reg [2, 3, 6, 12] (fun K hK => ?_)
  simp
  apply hK; clear hK K
  unfold nearS nearE at h
  refine L_split rfl (fun ht => ?_) (fun hf => ?_)
  · have hne : withE ws lo hi b ≠ 0 := by simpa using ht
    simp only [if_neg hne] at h
    refine L_reg [4, 5] (fun K hK => ?_)
    simp
    apply hK; clear hK K
    exact L_ret ⟨.inr rfl, _, rfl, h _ _ (Ls.none H1) hE⟩
  · have he : withE ws lo hi b = 0 := by simpa using hf
    simp only [if_pos he] at h
    obtain ⟨hfine, hok⟩ := with_ok he
    have hrec : recE ws lo hi = 0 := by
      unfold withE at he; split at he
      · assumption
      · exact he
    have hFl : ∀ x ∈ (roundS ws.length b.length).filter (fitB ws lo hi), x.length ≤ 1000000 := fun x hx => by
      rw [roundS_len _ _ _ (List.mem_filter.1 hx).1]; exact hb
    have hFn : ((roundS ws.length b.length).filter (fitB ws lo hi)).length ≤ 1024 := Nat.le_trans (List.length_filter_le _ _) (round_le2 (rec_ok hrec).2.1)
    refine L_reg [3, 7] (fun K hK => ?_)
    simp [okFn_low, d3, eb]
    refine fitting_ac _ ws lo hi b.length H1 _ hrec (okb_len hok) hv (fun va H2 hls hone hE2 => ?_)
    simp
    apply hK; clear hK K
    have hE := hE.trans hE2
    have hu := hu.ext hE2
    have hB := hE2.row hB
    generalize (roundS ws.length b.length).filter (fitB ws lo hi) = F at *
    obtain ⟨r3, o3, v3, z3, f3, rfl, -⟩ := id hls
    refine L_reg [3, 7, 20] (fun K hK => ?_)
    simp
    apply hK; clear hK K
    cases F with
    | nil =>
      simp only [if_true] at h
      refine L_true (by simp) ?_
      refine L_reg [4, 5] (fun K hK => ?_)
      simp
      apply hK; clear hK K
      exact L_ret ⟨.inr rfl, _, rfl, h _ _ (Ls.none H2) hE⟩
    | cons x0 F =>
      rw [if_neg (by simp)] at h
      refine L_false (by simp; omega) ?_
      refine L_reg [4, 5] (fun K hK => ?_)
      simp [okFn_low]
      refine MinFunc_ac _ x0 F b (q + 1) 0 _ H2 _ (by simp at hFn; omega) hFl hls hb hB hu (fun w H3 hw hE3 => ?_)
      simp
      apply hK; clear hK K
      exact L_ret ⟨.inr rfl, _, rfl, h _ _ (by simpa [bestS] using hw) (hE.trans hE3)⟩
end Go.Proofs.Ytmoifofihafgmaa

/- The reference's Nearest. -/
namespace Go.Proofs.Ytmoifofihafgmaa
open Go Go.Proofs.Ytmoifofihafgmaa.AX

set_option maxRecDepth 100000 in
theorem smaller_ac (u v : AV) (l m : List Int) (H : AH) (Q : AV → AH → Prop) (hl : l.length ≤ 1000000) (he : l.length = m.length) (hu : Ls H u l) (hv : Ls H v m) (h : Q (.bool (decide (lexS l m < 0))) H) : AC Try.prog 85 [u, v] H Q := by
  obtain ⟨r, off, ver, sz, full, rfl, hld⟩ := hu
  obtain ⟨r2, off2, ver2, sz2, full2, rfl, hld2⟩ := hv
  refine L_body 30 Try.func85 rfl rfl ?_
  refine L_reg [0, 1] (fun K hK => ?_)
  simp
  apply hK; clear hK K
  refine L_reg [0, 1, 5] (fun K hK => ?_)
  simp
  apply hK; clear hK K
  refine L_block (L_loopV [5] (fun k vs H' => ∃ (i : Nat), k = l.length - i ∧ i ≤ l.length ∧ lexS l m = lexS (l.drop i) (m.drop i) ∧ vs = [.int .i64 i] ∧ H = H') _ [.int .i64 (0 : Nat)] rfl ⟨0, rfl, by omega, rfl, rfl, rfl⟩ ?_)
  rintro k _ _ ⟨i, rfl, hi, hx, rfl, rfl⟩
  refine L_reg [0, 1, 5, 9] (fun K hK => ?_)
  simp
  apply hK; clear hK K
  refine L_dec (i < l.length) (by simp) (fun hlt => ?_) (fun hge => L_exit ?_)
  · have hlt2 : i < m.length := by omega
    obtain ⟨r', rfl, rfl, hrd⟩ := hld i hlt
    obtain ⟨r3, rfl, rfl, hrd2⟩ := hld2 i hlt2
    rw [lexS_drop hlt hlt2] at hx
    refine L_block ?_
    refine L_regT mixed [0, 1, 5, 20] (by kernel_rfl) (fun K hK => ?_)
    simp [hlt, ← he, hrd, hrd2]
    apply hK; clear hK K
    generalize l[i] = x at *
    generalize m[i] = y at *
    by_cases hxy : x = y
    · have hc : cmpS x y = 0 := by subst hxy; simp [cmpS]
      rw [if_pos hc] at hx
      refine L_false (by simp [hxy]) ?_
      refine L_reg [0, 1, 5] (fun K hK => ?_)
      simp [wrap_i64 (a := (i : Int) + 1) (by omega)]
      apply hK; clear hK K
      exact ⟨l.length - (i + 1), [.int .i64 (i + 1 : Nat)], by omega, by simp [he], i + 1, rfl, by omega, hx, rfl, rfl⟩
    · have hc : cmpS x y ≠ 0 := by unfold cmpS; split <;> (try split) <;> omega
      rw [if_neg hc] at hx
      refine L_true (by simp [hxy]) ?_
      refine L_regT mixed [4] (by kernel_rfl) (fun K hK => ?_)
      simp [hlt, hrd, hrd2]
      apply hK; clear hK K
      have hd : decide (lexS l m < 0) = decide (x < y) := by
        rw [hx]; unfold cmpS
        by_cases h1 : x < y
        · simp [h1]
        · rw [if_neg h1]; split <;> simp <;> omega
      exact L_ret ⟨.inr rfl, _, rfl, by rw [hd] at h; exact h⟩
  · rw [List.drop_eq_nil_of_le (by omega), List.drop_eq_nil_of_le (by omega)] at hx
    have hd : decide (lexS l m < 0) = false := by rw [hx]; rfl
    refine L_reg [4] (fun K hK => ?_)
    simp
    apply hK; clear hK K
    exact L_ret ⟨.inr rfl, _, rfl, by rw [hd] at h; exact h⟩
theorem nearC_neg (b x m : List Int) : nearC b x m < 0 ↔ (lack b x).length < (lack b m).length ∨ ((lack b x).length = (lack b m).length ∧ lexS x m < 0) := by
  unfold nearC cmpS
  by_cases h1 : (lack b x).length < (lack b m).length
  · simp [h1]
  · by_cases h2 : (lack b m).length < (lack b x).length
    · simp [h1, h2]; omega
    · have : (lack b x).length = (lack b m).length := by omega
      simp [this]
/-- The best of those that fit, so far. -/
def bestF (b : List Int) (f : List Int → Bool) (l : List (List Int)) : Option (List Int) := bestS b (l.filter f)
theorem best_snoc {b x : List Int} {l : List (List Int)} : bestS b (l ++ [x]) = match bestS b l with | none => some x | some m => some (nearer b m x) := by
  cases l with
  | nil => rfl
  | cons y l => simp [bestS, List.foldl_append]
theorem best_take {b : List Int} {f : List Int → Bool} {l : List (List Int)} {i : Nat} (hi : i < l.length) : bestF b f (l.take (i + 1)) = if f l[i] = true then (match bestF b f (l.take i) with | none => some l[i] | some m => some (nearer b m l[i])) else bestF b f (l.take i) := by
  unfold bestF
  rw [List.take_add_one, List.getElem?_eq_getElem hi, List.filter_append]
  by_cases h : f l[i] = true
  · simp [h, best_snoc]
  · simp [h]
theorem foldl_mem {b : List Int} : ∀ {l : List (List Int)} {x : List Int}, l.foldl (nearer b) x ∈ x :: l
  | [], x => by simp
  | y :: l, x => by
    simp only [List.foldl_cons]
    have := foldl_mem (b := b) (l := l) (x := nearer b x y)
    rcases List.mem_cons.1 this with h | h
    · rw [h]; unfold nearer; split <;> simp
    · simp [h]
theorem best_mem {b : List Int} {f : List Int → Bool} {l : List (List Int)} {m : List Int} (h : bestF b f l = some m) : m ∈ l := by
  unfold bestF at h
  cases hl : l.filter f with
  | nil => rw [hl] at h; cases h
  | cons x r =>
    rw [hl] at h
    simp only [bestS, Option.some.injEq] at h
    have := foldl_mem (b := b) (l := r) (x := x)
    rw [h, ← hl] at this
    exact (List.mem_filter.1 this).1
theorem best_none {b : List Int} {f : List Int → Bool} {l : List (List Int)} : bestF b f l = none ↔ l.filter f = [] := by
  unfold bestF
  cases l.filter f <;> simp [bestS]
end Go.Proofs.Ytmoifofihafgmaa

/- The reference's Nearest: the walk. -/
namespace Go.Proofs.Ytmoifofihafgmaa
open Go Go.Proofs.Ytmoifofihafgmaa.AX

set_option maxRecDepth 100000 in
set_option maxHeartbeats 800000 in
theorem rNearest_ac (v u : AV) (ws b : List Int) (lo hi : Int) (H : AH) (Q : AV → AH → Prop) (hl : ws.length ≤ 1000000) (hb : b.length ≤ 1000000) (hv : Ls H v ws) (hu : Ls H u b) (h : ∀ w H', Ls H' w (nearS ws lo hi b) → Ext H H' → Q (.tuple [w, .int .i64 (nearE ws lo hi b)]) H') : AC Try.prog 39 [.agg [v, .int .i64 lo, .int .i64 hi], u] H Q := by
  obtain ⟨r, off, ver, sz, full, rfl, -⟩ := id hv
  obtain ⟨r2, off2, ver2, sz2, full2, rfl, -⟩ := id hu
  refine L_body 82 Try.func39 rfl rfl ?_
  refine L_reg [1, 2] (fun K hK => ?_)
  simp [AV.isU, acells]
  apply hK; clear hK K
  have hE := Ext.push H [AObj.row [.slice r off ws.length ver sz full, .int .i64 lo, .int .i64 hi] 0 0 false]
  have hR := RecRow.new H (.slice r off ws.length ver sz full) lo hi 0
  have hv := hv.ext hE
  have hu := hu.ext hE
  generalize H ++ [AObj.row [.slice r off ws.length ver sz full, .int .i64 lo, .int .i64 hi] 0 0 false] = H0 at *
  generalize H.length = q at *
  obtain ⟨-, -, -, d3⟩ := hR.lds
  refine L_reg [1, 2, 6] (fun K hK => ?_)
  simp [okFn_low, d3]
  refine blended_ac _ _ ws b lo hi H0 _ hl hb hv hu (fun H1 hE1 => ?_)
  simp
  apply hK; clear hK K
  have hv := hv.ext hE1
  have hu := hu.ext hE1
  have hR := hR.ext hE1
  obtain ⟨d0, -, -, -⟩ := hR.lds
  have hE := hE.trans hE1
  refine L_reg [1, 2, 6, 16] (fun K hK => ?_)
  simp
  apply hK; clear hK K
  unfold nearS nearE at h
  refine L_split rfl (fun ht => ?_) (fun hf => ?_)
  · have hne : withE ws lo hi b ≠ 0 := by simpa using ht
    simp only [if_neg hne] at h
    refine L_reg [4, 5] (fun K hK => ?_)
    simp
    apply hK; clear hK K
    exact L_ret ⟨.inr rfl, _, rfl, h _ _ (Ls.none H1) hE⟩
  have he : withE ws lo hi b = 0 := by simpa using hf
  simp only [if_pos he] at h
  obtain ⟨hfine, hok⟩ := with_ok he
  have hrec : recE ws lo hi = 0 := by
    unfold withE at he; split at he
    · assumption
    · exact he
  have hbl := okb_len hok
  have hws := (rec_ok hrec).2.1
  refine L_reg [1, 2, 7] (fun K hK => ?_)
  simp
  apply hK; clear hK K
  refine L_reg [1, 2, 7, 8] (fun K hK => ?_)
  simp
  apply hK; clear hK K
  refine L_reg [1, 2, 7, 8, 9] (fun K hK => ?_)
  simp [okFn_low, d0]
  refine rround_ac ws.length b.length hbl hws H1 _ (fun vF H2 hRn hE2 => ?_)
  simp
  apply hK; clear hK K
  have hR := hR.ext hE2
  have hE := hE.trans hE2
  have hv := hv.ext hE2
  have hu := hu.ext hE2
  have hFo : ∀ x ∈ roundS ws.length b.length, Okb ws.length x := fun x hx => okb_round hx
  have hFl : ∀ x ∈ roundS ws.length b.length, x.length = b.length := fun x hx => roundS_len _ _ _ hx
  have hFn := round_le2 (n := ws.length) (k := b.length) hws
  obtain ⟨rF, vrF, rfl, hget⟩ := hRn.get
  generalize roundS ws.length b.length = F at *
  refine L_reg [1, 2, 7, 8, 9, 10] (fun K hK => ?_)
  simp
  apply hK; clear hK K
  refine L_block (L_loopV [7, 8, 10] (fun k vs H' => ∃ (i : Nat) (w : AV) (fd : Bool), k = F.length - i ∧ i ≤ F.length ∧ (fd = false → bestF b (fitB ws lo hi) (F.take i) = none) ∧ (fd = true → ∃ m, bestF b (fitB ws lo hi) (F.take i) = some m ∧ Ls H' w m) ∧ Ext H2 H' ∧ vs = [w, .bool fd, .int .i64 i]) _ [.slice none 0 0 0 1 false, .bool false, .int .i64 (0 : Nat)] rfl ⟨0, _, false, rfl, by omega, fun _ => rfl, fun h => (by cases h), .refl H2, rfl⟩ ?_)
  rintro _ _ H3 ⟨i, w, fd, rfl, hiF, hf0, hf1, hE3, rfl⟩
  refine L_reg [1, 2, 7, 8, 9, 10, 27] (fun K hK => ?_)
  simp
  apply hK; clear hK K
  refine L_dec (i < F.length) (by simp) (fun hlt => ?_) (fun hge => L_exit ?_)
  · obtain ⟨wx, hwx, hLx⟩ := hget i hlt
    have hwx := hE3.ld hwx
    have hLx := hLx.ext hE3
    have hxF := List.getElem_mem hlt
    have hbt := best_take (b := b) (f := fitB ws lo hi) hlt
    have hox := hFo _ hxF
    have hlx := hFl _ hxF
    have hmem : ∀ m, bestF b (fitB ws lo hi) (F.take i) = some m → m ∈ F := fun m hm => List.mem_of_mem_take (best_mem hm)
    generalize F[i] = x at *
    have hv3 := hv.ext hE3
    have hu3 := hu.ext hE3
    obtain ⟨-, d1, d2, d3⟩ := (hR.ext hE3).lds
    have hxb := lack_len hox.2 hok.2 hlx
    refine L_block ?_
    refine L_regY mixed [1, 2, 7, 8, 9, 10, 41] (by kernel_rfl) (fun K hK => ?_)
    simp [okFn_low, d3, hlt, hwx]
    refine exX_mk (fun Q hQ => rweight_q _ wx ws x lo hi H3 (fine_of hrec hox) hv3 hLx Q hQ) (.refl _) ?_
    simp [okFn_low, d1, d2]
    refine exX_mk (fun Q hQ => in_ac (weighS ws x) lo hi H3 Q hQ) (.refl _) ?_
    simp
    apply hK; clear hK K
    by_cases hfit : fitB ws lo hi x = true
    case neg =>
      have hf' : ¬ (lo ≤ weighS ws x ∧ weighS ws x ≤ hi) := by simpa [fitB] using hfit
      rw [if_neg hfit] at hbt
      refine L_true (by simp; omega) (L_exit ?_)
      refine L_reg [1, 2, 7, 8, 9, 10] (fun K hK => ?_)
      simp [wrap_i64 (a := (i : Int) + 1) (by omega)]
      apply hK; clear hK K
      exact ⟨F.length - (i + 1), [w, .bool fd, .int .i64 (i + 1 : Nat)], by omega, by simp, i + 1, w, fd, rfl, by omega, fun e => by rw [hbt]; exact hf0 e, fun e => by rw [hbt]; exact hf1 e, hE3, rfl⟩
    have hf' : lo ≤ weighS ws x ∧ weighS ws x ≤ hi := by simpa [fitB] using hfit
    rw [if_pos hfit] at hbt
    refine L_false (by simp [hf']) ?_
    refine L_reg [1, 2, 7, 8, 9, 10, 11] (fun K hK => ?_)
    simp [okFn_low, hlt, hwx]
    refine rless_ac wx _ x b H3 _ (by omega) hb hLx hu3 (fun w1 H4 hO1 hE4 => ?_)
    obtain ⟨r1, o1, v1, z1, f1, rfl, -⟩ := ownF_ls hO1
    simp
    apply hK; clear hK K
    have hE34 := hE3.trans hE4
    have hwx := hE4.ld hwx
    have hLx := hLx.ext hE4
    have hu4 := hu3.ext hE4
    cases fd with
    | false =>
      rw [hf0 rfl] at hbt
      refine L_reg [1, 2, 7, 8, 9, 10, 74] (fun K hK => ?_)
      simp [pickV]
      apply hK; clear hK K
      refine L_true (by simp) ?_
      refine L_reg [1, 2, 7, 9, 10] (fun K hK => ?_)
      simp [hlt, hwx]
      apply hK; clear hK K
      refine L_reg [1, 2, 7, 8, 9, 10] (fun K hK => ?_)
      simp
      apply hK; clear hK K
      refine L_reg [1, 2, 7, 8, 9, 10] (fun K hK => ?_)
      simp [wrap_i64 (a := (i : Int) + 1) (by omega)]
      apply hK; clear hK K
      exact ⟨F.length - (i + 1), [wx, .bool true, .int .i64 (i + 1 : Nat)], by omega, by simp, i + 1, wx, true, rfl, by omega, (fun e => by cases e), fun _ => ⟨x, hbt, hLx⟩, hE34, rfl⟩
    | true =>
      obtain ⟨m, hm, hLm⟩ := hf1 rfl
      rw [hm] at hbt
      have hmF := hmem m hm
      have hmo := hFo m hmF
      have hml := hFl m hmF
      have hmb := lack_len hmo.2 hok.2 hml
      have hLm := hLm.ext hE4
      have hneg := nearC_neg b x m
      rw [← hxb, ← hmb] at hneg
      have yes : nearC b x m < 0 → ∀ H5, Ext H4 H5 → ∃ m', bestF b (fitB ws lo hi) (F.take (i + 1)) = some m' ∧ Ls H5 wx m' := fun h1 H5 h5 => ⟨x, by rw [hbt]; simp only [nearer, if_pos h1], hLx.ext h5⟩
      have no : ¬ nearC b x m < 0 → ∀ H5, Ext H4 H5 → ∃ m', bestF b (fitB ws lo hi) (F.take (i + 1)) = some m' ∧ Ls H5 w m' := fun h1 H5 h5 => ⟨m, by rw [hbt]; simp only [nearer, if_neg h1], hLm.ext h5⟩
      by_cases hlt3 : (lack x b).length < (lack m b).length
      · refine L_reg [1, 2, 7, 8, 9, 10, 74] (fun K hK => ?_)
        simp [okFn_low]
        refine rless_ac w _ m b H4 _ (by omega) hb hLm hu4 (fun w2 H5 hO2 hE5 => ?_)
        obtain ⟨r3, o3, v3, z3, f3, rfl, -⟩ := ownF_ls hO2
        simp [pickV, hlt3]
        apply hK; clear hK K
        refine L_true (by simp) ?_
        refine L_reg [1, 2, 7, 9, 10] (fun K hK => ?_)
        simp [hlt, hE5.ld hwx]
        apply hK; clear hK K
        refine L_reg [1, 2, 7, 8, 9, 10] (fun K hK => ?_)
        simp
        apply hK; clear hK K
        refine L_reg [1, 2, 7, 8, 9, 10] (fun K hK => ?_)
        simp [wrap_i64 (a := (i : Int) + 1) (by omega)]
        apply hK; clear hK K
        exact ⟨F.length - (i + 1), [wx, .bool true, .int .i64 (i + 1 : Nat)], by omega, by simp, i + 1, wx, true, rfl, by omega, (fun e => by cases e), fun _ => yes (hneg.2 (.inl hlt3)) H5 hE5, hE34.trans hE5, rfl⟩
      · refine L_reg [1, 2, 7, 8, 9, 10, 74] (fun K hK => ?_)
        simp [okFn_low]
        refine rless_ac w _ m b H4 _ (by omega) hb hLm hu4 (fun w2 H5 hO2 hE5 => ?_)
        obtain ⟨r3, o3, v3, z3, f3, rfl, -⟩ := ownF_ls hO2
        simp [okFn_low, pickV, hlt3]
        refine rless_ac w _ m b H5 _ (by omega) hb (hLm.ext hE5) (hu4.ext hE5) (fun w3 H6 hO3 hE6 => ?_)
        obtain ⟨r4, o4, v4, z4, f4, rfl, -⟩ := ownF_ls hO3
        have hE56 := hE5.trans hE6
        by_cases heq : (lack x b).length = (lack m b).length
        · simp [okFn_low, heq, hlt, hE56.ld hwx]
          refine smaller_ac wx w x m H6 _ (by omega) (by omega) (hLx.ext hE56) (hLm.ext hE56) ?_
          simp [pickV]
          apply hK; clear hK K
          refine L_dec (lexS x m < 0) (by simp) (fun h1 => ?_) (fun h1 => ?_)
          · refine L_reg [1, 2, 7, 9, 10] (fun K hK => ?_)
            simp [hlt, hE56.ld hwx]
            apply hK; clear hK K
            refine L_reg [1, 2, 7, 8, 9, 10] (fun K hK => ?_)
            simp
            apply hK; clear hK K
            refine L_reg [1, 2, 7, 8, 9, 10] (fun K hK => ?_)
            simp [wrap_i64 (a := (i : Int) + 1) (by omega)]
            apply hK; clear hK K
            exact ⟨F.length - (i + 1), [wx, .bool true, .int .i64 (i + 1 : Nat)], by omega, by simp, i + 1, wx, true, rfl, by omega, (fun e => by cases e), fun _ => yes (hneg.2 (.inr ⟨heq, h1⟩)) H6 hE56, hE34.trans hE56, rfl⟩
          · refine L_reg [1, 2, 7, 8, 9, 10] (fun K hK => ?_)
            simp [wrap_i64 (a := (i : Int) + 1) (by omega)]
            apply hK; clear hK K
            exact ⟨F.length - (i + 1), [w, .bool true, .int .i64 (i + 1 : Nat)], by omega, by simp, i + 1, w, true, rfl, by omega, (fun e => by cases e), fun _ => no (fun e => by rcases hneg.1 e with e | e; exact hlt3 e; exact h1 e.2) H6 hE56, hE34.trans hE56, rfl⟩
        · simp [pickV, show (((lack x b).length : Int) == ((lack m b).length : Int)) = false by simp; omega]
          apply hK; clear hK K
          refine L_false (by simp) ?_
          refine L_reg [1, 2, 7, 8, 9, 10] (fun K hK => ?_)
          simp [wrap_i64 (a := (i : Int) + 1) (by omega)]
          apply hK; clear hK K
          exact ⟨F.length - (i + 1), [w, .bool true, .int .i64 (i + 1 : Nat)], by omega, by simp, i + 1, w, true, rfl, by omega, (fun e => by cases e), fun _ => no (fun e => by rcases hneg.1 e with e | e; exact hlt3 e; exact heq e.1) H6 hE56, hE34.trans hE56, rfl⟩
  · obtain rfl : i = F.length := by omega
    rw [List.take_length] at hf0 hf1
    refine L_reg [7, 80] (fun K hK => ?_)
    simp
    apply hK; clear hK K
    cases fd with
    | false =>
      have hn := best_none.1 (hf0 rfl)
      rw [hn, if_pos rfl] at h
      refine L_true (by simp) ?_
      refine L_reg [4, 5] (fun K hK => ?_)
      simp
      apply hK; clear hK K
      exact L_ret ⟨.inr rfl, _, rfl, h _ _ (by simpa [bestS] using Ls.none H3) (hE.trans hE3)⟩
    | true =>
      obtain ⟨m, hm, hLm⟩ := hf1 rfl
      have hn : F.filter (fitB ws lo hi) ≠ [] := fun e => by
        have := (best_none (b := b)).2 e
        rw [this] at hm; cases hm
      rw [if_neg hn] at h
      refine L_false (by simp) ?_
      refine L_reg [4, 5] (fun K hK => ?_)
      simp
      apply hK; clear hK K
      exact L_ret ⟨.inr rfl, _, rfl, h _ _ (by unfold bestF at hm; rw [hm]; exact hLm) (hE.trans hE3)⟩
end Go.Proofs.Ytmoifofihafgmaa

/- The reference's Reach. -/
namespace Go.Proofs.Ytmoifofihafgmaa
open Go Go.Proofs.Ytmoifofihafgmaa.AX

@[simp] theorem rd_min (xs : Array Operand) (ts : Array TypeId) (H H0 : AH) : rdH (.call ⟨.builtin .min, xs, ts⟩) H0 H = H := rfl
@[simp] theorem bk_min (xs : Array Operand) (ts : Array TypeId) (H H0 : AH) : bkH (.call ⟨.builtin .min, xs, ts⟩) H H0 = H0 := rfl
@[simp] theorem rd_max (xs : Array Operand) (ts : Array TypeId) (H H0 : AH) : rdH (.call ⟨.builtin .max, xs, ts⟩) H0 H = H := rfl
@[simp] theorem bk_max (xs : Array Operand) (ts : Array TypeId) (H H0 : AH) : bkH (.call ⟨.builtin .max, xs, ts⟩) H H0 = H0 := rfl
def reachE (ws : List Int) (lo hi : Int) (b : List Int) (c : Int) : Int := if withE ws lo hi b = 0 then (if c < 0 ∨ 10 < c then 1 else 0) else withE ws lo hi b
def closeB (b : List Int) (c : Int) (x : List Int) : Bool := decide (((lack b x).length : Int) ≤ c)
def lowS (ws b : List Int) (c : Int) (F : List (List Int)) : Int := (F.filter (closeB b c)).foldl (fun a x => min a (weighS ws x)) (weighS ws b)
def highS (ws b : List Int) (c : Int) (F : List (List Int)) : Int := (F.filter (closeB b c)).foldl (fun a x => max a (weighS ws x)) (weighS ws b)
theorem low_take {ws b : List Int} {c : Int} {F : List (List Int)} {i : Nat} (hi : i < F.length) : lowS ws b c (F.take (i + 1)) = if closeB b c F[i] = true then min (lowS ws b c (F.take i)) (weighS ws F[i]) else lowS ws b c (F.take i) := by
  unfold lowS
  rw [List.take_add_one, List.getElem?_eq_getElem hi, List.filter_append]
  by_cases h : closeB b c F[i] = true <;> simp [h]
theorem high_take {ws b : List Int} {c : Int} {F : List (List Int)} {i : Nat} (hi : i < F.length) : highS ws b c (F.take (i + 1)) = if closeB b c F[i] = true then max (highS ws b c (F.take i)) (weighS ws F[i]) else highS ws b c (F.take i) := by
  unfold highS
  rw [List.take_add_one, List.getElem?_eq_getElem hi, List.filter_append]
  by_cases h : closeB b c F[i] = true <;> simp [h]
def reachS (ws : List Int) (lo hi : Int) (b : List Int) (c : Int) : Int × Int := if reachE ws lo hi b c = 0 then (lowS ws b c (roundS ws.length b.length), highS ws b c (roundS ws.length b.length)) else (0, 0)
set_option maxRecDepth 100000 in
theorem rReach_ac (v u : AV) (ws b : List Int) (lo hi c : Int) (H : AH) (Q : AV → AH → Prop) (hl : ws.length ≤ 1000000) (hb : b.length ≤ 1000000) (hv : Ls H v ws) (hu : Ls H u b) (h : ∀ H', Ext H H' → Q (.tuple [.int .i64 (reachS ws lo hi b c).1, .int .i64 (reachS ws lo hi b c).2, .int .i64 (reachE ws lo hi b c)]) H') : AC Try.prog 41 [.agg [v, .int .i64 lo, .int .i64 hi], u, .int .i64 c] H Q := by
  obtain ⟨r, off, ver, sz, full, rfl, -⟩ := id hv
  obtain ⟨r2, off2, ver2, sz2, full2, rfl, -⟩ := id hu
  refine L_body 72 Try.func41 rfl rfl ?_
  refine L_reg [1, 2, 3] (fun K hK => ?_)
  simp [AV.isU, acells]
  apply hK; clear hK K
  have hE := Ext.push H [AObj.row [.slice r off ws.length ver sz full, .int .i64 lo, .int .i64 hi] 0 0 false]
  have hR := RecRow.new H (.slice r off ws.length ver sz full) lo hi 0
  have hv := hv.ext hE
  have hu := hu.ext hE
  generalize H ++ [AObj.row [.slice r off ws.length ver sz full, .int .i64 lo, .int .i64 hi] 0 0 false] = H0 at *
  generalize H.length = q at *
  obtain ⟨-, -, -, d3⟩ := hR.lds
  refine L_reg [1, 2, 3, 9] (fun K hK => ?_)
  simp [okFn_low, d3]
  refine blended_ac _ _ ws b lo hi H0 _ hl hb hv hu (fun H1 hE1 => ?_)
  simp
  apply hK; clear hK K
  have hv := hv.ext hE1
  have hu := hu.ext hE1
  have hR := hR.ext hE1
  obtain ⟨d0, -, -, d3⟩ := hR.lds
  have hE := hE.trans hE1
  unfold reachS reachE at h
  by_cases he : withE ws lo hi b = 0
  case neg =>
    simp only [if_neg he] at h
    refine L_reg [1, 2, 3, 9, 23] (fun K hK => ?_)
    simp [show (withE ws lo hi b == 0) = false by simpa using he, pickV]
    apply hK; clear hK K
    refine L_false (by simp) ?_
    refine L_reg [1, 2, 3, 9, 25] (fun K hK => ?_)
    simp
    apply hK; clear hK K
    refine L_true (by simp [he]) ?_
    refine L_reg [6, 7, 8] (fun K hK => ?_)
    simp
    apply hK; clear hK K
    exact L_ret ⟨.inr rfl, _, rfl, h _ hE⟩
  simp only [if_pos he] at h
  refine L_reg [1, 2, 3, 9, 23] (fun K hK => ?_)
  simp [okFn_low, he]
  refine in_ac c 0 10 _ _ ?_
  simp [pickV]
  apply hK; clear hK K
  by_cases hc : 0 ≤ c ∧ c ≤ 10
  case neg =>
    have h1 : (if c < 0 ∨ 10 < c then (1 : Int) else 0) = 1 := if_pos (by omega)
    rw [h1, if_neg (by decide)] at h
    refine L_true (by simp; omega) ?_
    refine L_reg [1, 2, 3, 9] (fun K hK => ?_)
    simp
    apply hK; clear hK K
    refine L_reg [1, 2, 3, 9, 25] (fun K hK => ?_)
    simp
    apply hK; clear hK K
    refine L_true (by simp) ?_
    refine L_reg [6, 7, 8] (fun K hK => ?_)
    simp
    apply hK; clear hK K
    exact L_ret ⟨.inr rfl, _, rfl, h _ hE⟩
  have h1 : (if c < 0 ∨ 10 < c then (1 : Int) else 0) = 0 := if_neg (by omega)
  rw [h1, if_pos rfl] at h
  refine L_false (by simp [hc]) ?_
  refine L_reg [1, 2, 3, 9, 25] (fun K hK => ?_)
  simp
  apply hK; clear hK K
  refine L_false (by simp) ?_
  obtain ⟨hfine, hok⟩ := with_ok he
  have hrec : recE ws lo hi = 0 := by
    unfold withE at he; split at he
    · assumption
    · exact he
  have hbl := okb_len hok
  have hws := (rec_ok hrec).2.1
  refine L_regY mixed [1, 2, 3, 10, 11] (by kernel_rfl) (fun K hK => ?_)
  simp [okFn_low, d3]
  refine exX_mk (fun Q hQ => rweight_q _ _ ws b lo hi H1 hfine hv hu Q hQ) (.refl _) ?_
  simp [okFn_low, d3]
  refine exX_mk (fun Q hQ => rweight_q _ _ ws b lo hi H1 hfine hv hu Q hQ) (.refl _) ?_
  simp
  apply hK; clear hK K
  refine L_reg [1, 2, 3, 10, 11, 12] (fun K hK => ?_)
  simp [okFn_low, d0]
  refine rround_ac ws.length b.length hbl hws H1 _ (fun vF H2 hRn hE2 => ?_)
  simp
  apply hK; clear hK K
  have hR := hR.ext hE2
  have hE := hE.trans hE2
  have hv := hv.ext hE2
  have hu := hu.ext hE2
  have hFo : ∀ x ∈ roundS ws.length b.length, Okb ws.length x := fun x hx => okb_round hx
  have hFl : ∀ x ∈ roundS ws.length b.length, x.length = b.length := fun x hx => roundS_len _ _ _ hx
  have hFn := round_le2 (n := ws.length) (k := b.length) hws
  obtain ⟨rF, vrF, rfl, hget⟩ := hRn.get
  generalize roundS ws.length b.length = F at *
  refine L_reg [1, 2, 3, 10, 11, 12, 13] (fun K hK => ?_)
  simp
  apply hK; clear hK K
  refine L_block (L_loopV [10, 11, 13] (fun k vs H' => ∃ (i : Nat), k = F.length - i ∧ i ≤ F.length ∧ Ext H2 H' ∧ vs = [.int .i64 (lowS ws b c (F.take i)), .int .i64 (highS ws b c (F.take i)), .int .i64 i]) _ [.int .i64 (weighS ws b), .int .i64 (weighS ws b), .int .i64 (0 : Nat)] rfl ⟨0, rfl, by omega, .refl H2, rfl⟩ ?_)
  rintro _ _ H3 ⟨i, rfl, hiF, hE3, rfl⟩
  refine L_reg [1, 2, 3, 10, 11, 12, 13, 42] (fun K hK => ?_)
  simp
  apply hK; clear hK K
  refine L_dec (i < F.length) (by simp) (fun hlt => ?_) (fun hge => L_exit ?_)
  · obtain ⟨wx, hwx, hLx⟩ := hget i hlt
    have hwx := hE3.ld hwx
    have hLx := hLx.ext hE3
    have hxF := List.getElem_mem hlt
    have ht1 := low_take (ws := ws) (b := b) (c := c) hlt
    have ht2 := high_take (ws := ws) (b := b) (c := c) hlt
    have hox := hFo _ hxF
    have hlx := hFl _ hxF
    generalize F[i] = x at *
    have hxb := lack_len hox.2 hok.2 hlx
    have hcl : closeB b c x = decide (((lack x b).length : Int) ≤ c) := by unfold closeB; rw [hxb]
    refine L_block ?_
    refine L_reg [1, 2, 3, 10, 11, 12, 13, 53] (fun K hK => ?_)
    simp [okFn_low, hlt, hwx]
    refine rless_ac wx _ x b H3 _ (by omega) hb hLx (hu.ext hE3) (fun w1 H4 hO1 hE4 => ?_)
    obtain ⟨r1, o1, v1, z1, f1, rfl, -⟩ := ownF_ls hO1
    simp
    apply hK; clear hK K
    have hE34 := hE3.trans hE4
    have hwx := hE4.ld hwx
    have hLx := hLx.ext hE4
    have hv4 := hv.ext hE34
    obtain ⟨-, -, -, d3⟩ := (hR.ext hE34).lds
    generalize lowS ws b c (F.take i) = a1 at *
    generalize highS ws b c (F.take i) = a2 at *
    refine L_dec (((lack x b).length : Int) ≤ c) rfl (fun h2 => ?_) (fun h2 => ?_)
    · rw [hcl, decide_eq_true h2, if_pos rfl] at ht1 ht2
      refine L_regY mixed [1, 2, 3, 10, 11, 12, 13] (by kernel_rfl) (fun K hK => ?_)
      simp [okFn_low, d3, hlt, hwx]
      refine exX_mk (fun Q hQ => rweight_q _ wx ws x lo hi H4 (fine_of hrec hox) hv4 hLx Q hQ) (.refl _) ?_
      simp
      apply hK; clear hK K
      refine L_regY mixed [1, 2, 3, 10, 11, 12, 13] (by kernel_rfl) (fun K hK => ?_)
      simp [okFn_low, d3, hlt, hwx]
      refine exX_mk (fun Q hQ => rweight_q _ wx ws x lo hi H4 (fine_of hrec hox) hv4 hLx Q hQ) (.refl _) ?_
      simp
      apply hK; clear hK K
      refine L_reg [1, 2, 3, 10, 11, 12, 13] (fun K hK => ?_)
      simp [wrap_i64 (a := (i : Int) + 1) (by omega)]
      apply hK; clear hK K
      exact ⟨F.length - (i + 1), [.int .i64 (min a1 (weighS ws x)), .int .i64 (max a2 (weighS ws x)), .int .i64 (i + 1 : Nat)], by omega, by simp, i + 1, rfl, by omega, hE34, by rw [ht1, ht2]⟩
    · rw [hcl, decide_eq_false h2, if_neg (by decide)] at ht1 ht2
      refine L_reg [1, 2, 3, 10, 11, 12, 13] (fun K hK => ?_)
      simp [wrap_i64 (a := (i : Int) + 1) (by omega)]
      apply hK; clear hK K
      exact ⟨F.length - (i + 1), [.int .i64 a1, .int .i64 a2, .int .i64 (i + 1 : Nat)], by omega, by simp, i + 1, rfl, by omega, hE34, by rw [ht1, ht2]⟩
  · obtain rfl : i = F.length := by omega
    rw [List.take_length]
    refine L_reg [6, 7, 8] (fun K hK => ?_)
    simp
    apply hK; clear hK K
    exact L_ret ⟨.inr rfl, _, rfl, h _ (hE.trans hE3)⟩
end Go.Proofs.Ytmoifofihafgmaa

/- Reach. -/
namespace Go.Proofs.Ytmoifofihafgmaa
open Go Go.Proofs.Ytmoifofihafgmaa.AX

theorem weigh_q (v u : AV) (ws b : List Int) (lo hi : Int) (H : AH) (hf : Fine ws b) (hv : Ls H v ws) (hu : Ls H u b) (Q : AV → AH → Prop) (hq : Q (.int .i64 (weighS ws b)) H) : AC Try.prog 77 [.agg [v, .int .i64 lo, .int .i64 hi], u] H Q :=
  AC.quiet (belB_int _ _ _ _) (fun Q h => weigh_ac v u ws b lo hi H Q hf hv hu h) Q hq
theorem low_snoc {ws b x : List Int} {c : Int} {F : List (List Int)} : lowS ws b c (F ++ [x]) = if closeB b c x = true then min (lowS ws b c F) (weighS ws x) else lowS ws b c F := by
  unfold lowS
  rw [List.filter_append]
  by_cases h : closeB b c x = true <;> simp [h]
theorem high_snoc {ws b x : List Int} {c : Int} {F : List (List Int)} : highS ws b c (F ++ [x]) = if closeB b c x = true then max (highS ws b c F) (weighS ws x) else highS ws b c F := by
  unfold highS
  rw [List.filter_append]
  by_cases h : closeB b c x = true <;> simp [h]
/-- Two cells are written. -/
theorem two_cellsK {H : AH} {p s1 s2 : Nat} {a b a' b' : Int} (h1 : H[p]? = some (.row [.int .i64 a] 0 s1 false)) (h2 : H[p + 1]? = some (.row [.int .i64 b] 0 s2 false)) :
    ∃ H1 H2, storeV Try.prog 3 H (.ptr p 0 0) (.int .i64 a') = some (none, H1) ∧ storeV Try.prog 3 H1 (.ptr (p + 1) 0 0) (.int .i64 b') = some (none, H2) ∧ H2[p]? = some (.row [.int .i64 a'] 0 0 false) ∧ H2[p + 1]? = some (.row [.int .i64 b'] 0 0 false) ∧ H2.length = H.length ∧ (∀ j, j ≠ p → j ≠ p + 1 → H2[j]? = H[j]?) ∧ KeepS [p] H H1 := by
  have e1 := store_row (P := Try.prog) (u := 3) (p := 0) sc3 (x := .int .i64 a') (y := .int .i64 a) rfl h1 rfl
  have h2' : (H.set p (.row ([AV.int .i64 a].set 0 (.int .i64 a')) 0 (min s1 0) false))[p + 1]? = some (.row [.int .i64 b] 0 s2 false) := by rw [set_ne (by omega)]; exact h2
  have e2 := store_row (P := Try.prog) (u := 3) (p := 0) sc3 (x := .int .i64 b') (y := .int .i64 b) rfl h2' rfl
  refine ⟨_, _, e1, e2, ?_, ?_, by simp, fun j hj1 hj2 => ?_, (KeepS.refl _ _).set (by simp) _⟩
  · rw [set_ne (by omega), get_set h1]; simp
  · rw [get_set h2']; simp
  · rw [set_ne (Ne.symm hj2), set_ne (Ne.symm hj1)]
/-- Two cells are written. -/
theorem two_cells {H : AH} {p s1 s2 : Nat} {a b a' b' : Int} (h1 : H[p]? = some (.row [.int .i64 a] 0 s1 false)) (h2 : H[p + 1]? = some (.row [.int .i64 b] 0 s2 false)) :
    ∃ H1 H2, storeV Try.prog 3 H (.ptr p 0 0) (.int .i64 a') = some (none, H1) ∧ storeV Try.prog 3 H1 (.ptr (p + 1) 0 0) (.int .i64 b') = some (none, H2) ∧ H2[p]? = some (.row [.int .i64 a'] 0 0 false) ∧ H2[p + 1]? = some (.row [.int .i64 b'] 0 0 false) ∧ H2.length = H.length ∧ ∀ j, j ≠ p → j ≠ p + 1 → H2[j]? = H[j]? := by
  obtain ⟨H1, H2, a, b, c, d, e, f, -⟩ := two_cellsK (a' := a') (b' := b') h1 h2
  exact ⟨H1, H2, a, b, c, d, e, f⟩
set_option maxRecDepth 100000 in
theorem Reach_ac (v u : AV) (ws b : List Int) (lo hi c : Int) (H : AH) (Q : AV → AH → Prop) (hl : ws.length ≤ 1000000) (hb : b.length ≤ 1000000) (hv : Ls H v ws) (hu : Ls H u b) (h : ∀ H', Ext H H' → Q (.tuple [.int .i64 (reachS ws lo hi b c).1, .int .i64 (reachS ws lo hi b c).2, .int .i64 (reachE ws lo hi b c)]) H') : AC Try.prog 40 [.agg [v, .int .i64 lo, .int .i64 hi], u, .int .i64 c] H Q := by
  obtain ⟨r, off, ver, sz, full, rfl, -⟩ := id hv
  obtain ⟨r2, off2, ver2, sz2, full2, rfl, -⟩ := id hu
  have hv0 := hv
  have hu0 := hu
  refine L_body 53 Try.func40 rfl rfl ?_
  obtain ⟨I, hI, hz⟩ := zeroT_some zt3
  refine L_reg [3, 4, 5, 6, 7] (fun K hK => ?_)
  simp [AV.isU, acells, hI, hz]
  apply hK; clear hK K
  have hE := Ext.push H [AObj.row [.slice r off ws.length ver sz full, .int .i64 lo, .int .i64 hi] 0 0 false, .row [.slice r2 off2 b.length ver2 sz2 full2] 0 0 false, .row [.int .i64 c] 0 0 false, .row [.int .i64 0] 0 0 false, .row [.int .i64 0] 0 0 false]
  have hR : RecRow (H ++ [AObj.row [.slice r off ws.length ver sz full, .int .i64 lo, .int .i64 hi] 0 0 false, .row [.slice r2 off2 b.length ver2 sz2 full2] 0 0 false, .row [.int .i64 c] 0 0 false, .row [.int .i64 0] 0 0 false, .row [.int .i64 0] 0 0 false]) H.length (.slice r off ws.length ver sz full) lo hi := ⟨0, by simp⟩
  have hB : (H ++ [AObj.row [.slice r off ws.length ver sz full, .int .i64 lo, .int .i64 hi] 0 0 false, .row [.slice r2 off2 b.length ver2 sz2 full2] 0 0 false, .row [.int .i64 c] 0 0 false, .row [.int .i64 0] 0 0 false, .row [.int .i64 0] 0 0 false])[H.length + 1]? = some (.row [.slice r2 off2 b.length ver2 sz2 full2] 0 0 false) := by simp
  have hC : (H ++ [AObj.row [.slice r off ws.length ver sz full, .int .i64 lo, .int .i64 hi] 0 0 false, .row [.slice r2 off2 b.length ver2 sz2 full2] 0 0 false, .row [.int .i64 c] 0 0 false, .row [.int .i64 0] 0 0 false, .row [.int .i64 0] 0 0 false])[H.length + 2]? = some (.row [.int .i64 c] 0 0 false) := by simp
  have h3 : (H ++ [AObj.row [.slice r off ws.length ver sz full, .int .i64 lo, .int .i64 hi] 0 0 false, .row [.slice r2 off2 b.length ver2 sz2 full2] 0 0 false, .row [.int .i64 c] 0 0 false, .row [.int .i64 0] 0 0 false, .row [.int .i64 0] 0 0 false])[H.length + 3]? = some (.row [.int .i64 0] 0 0 false) := by simp
  have h4 : (H ++ [AObj.row [.slice r off ws.length ver sz full, .int .i64 lo, .int .i64 hi] 0 0 false, .row [.slice r2 off2 b.length ver2 sz2 full2] 0 0 false, .row [.int .i64 c] 0 0 false, .row [.int .i64 0] 0 0 false, .row [.int .i64 0] 0 0 false])[H.length + 4]? = some (.row [.int .i64 0] 0 0 false) := by simp
  have hv := hv.ext hE
  have hu := hu.ext hE
  generalize H ++ [AObj.row [.slice r off ws.length ver sz full, .int .i64 lo, .int .i64 hi] 0 0 false, .row [.slice r2 off2 b.length ver2 sz2 full2] 0 0 false, .row [.int .i64 c] 0 0 false, .row [.int .i64 0] 0 0 false, .row [.int .i64 0] 0 0 false] = H0 at *
  generalize hp : H.length = p at *
  obtain ⟨-, -, -, d3⟩ := hR.lds
  have eb : ld H0 (p + 1) 0 0 = some (.slice r2 off2 b.length ver2 sz2 full2) := by rw [ld_row hB]; rfl
  refine L_reg [3, 4, 5, 6, 7, 9] (fun K hK => ?_)
  simp [okFn_low, d3, eb]
  refine checkWith_ac _ _ ws b lo hi H0 _ hl hb hv hu (fun H1 hE1 => ?_)
  simp
  apply hK; clear hK K
  have hv := hv.ext hE1
  have hu := hu.ext hE1
  have hR := hR.ext hE1
  have hB := hE1.row hB
  have hC := hE1.row hC
  have h3 := hE1.row h3
  have h4 := hE1.row h4
  have hE := hE.trans hE1
  have ec : ld H1 (p + 2) 0 0 = some (.int .i64 c) := by rw [ld_row hC]; rfl
  have eb : ld H1 (p + 1) 0 0 = some (.slice r2 off2 b.length ver2 sz2 full2) := by rw [ld_row hB]; rfl
  obtain ⟨d0, -, -, d3⟩ := hR.lds
  clear hI hz
  have fin : ∀ {e : Env} {Hx : AH} {a1 a2 a3 : Int} {s1 s2 : Nat}, eget e 6 = .ptr (p + 3) 0 0 → eget e 7 = .ptr (p + 4) 0 0 → eget e 8 = .int .i64 a3 → Hx[p + 3]? = some (.row [.int .i64 a1] 0 s1 false) → Hx[p + 4]? = some (.row [.int .i64 a2] 0 s2 false) →
      (aResList Try.prog e Hx [.cell 6 3, .cell 7 3, .tmp 8]).map (fun | [v] => v | vs => AV.tuple vs) = some (.tuple [.int .i64 a1, .int .i64 a2, .int .i64 a3]) := by
    intro e Hx a1 a2 a3 s1 s2 g6 g7 g8 k1 k2
    have q1 : aRes1 Try.prog e Hx (.cell 6 3) = some (.int .i64 a1) := by
      show loadV Try.prog 3 Hx (eget e 6) = _
      rw [g6, ld3, ld_row k1]; rfl
    have q2 : aRes1 Try.prog e Hx (.cell 7 3) = some (.int .i64 a2) := by
      show loadV Try.prog 3 Hx (eget e 7) = _
      rw [g7, ld3, ld_row k2]; rfl
    have q3 : aRes1 Try.prog e Hx (.tmp 8) = some (.int .i64 a3) := by
      show some (eget e 8) = _
      rw [g8]
    simp only [aResList, q1, q2, q3]
    rfl
  have hle1 := hE.1
  unfold reachS reachE at h
  refine L_reg [3, 4, 5, 6, 7, 9, 15] (fun K hK => ?_)
  simp
  apply hK; clear hK K
  refine L_split rfl (fun ht => ?_) (fun hf => ?_)
  · have hne : withE ws lo hi b ≠ 0 := by simpa using ht
    simp only [if_neg hne] at h
    obtain ⟨G1, G2, e1, e2, k1, k2, k3, k4⟩ := two_cells (a' := 0) (b' := 0) h3 h4
    refine L_reg [6, 7, 8] (fun K hK => ?_)
    simp [e1, e2]
    apply hK; clear hK K
    refine L_ret ⟨.inr rfl, _, fin rfl rfl rfl k1 k2, h G2 ⟨by omega, fun j hj => ?_⟩⟩
    rw [k4 j (by omega) (by omega)]; exact hE.2 j hj
  have he : withE ws lo hi b = 0 := by simpa using hf
  simp only [if_pos he] at h
  by_cases hc : c < 0 ∨ 10 < c
  · have h1 : (if c < 0 ∨ 10 < c then (1 : Int) else 0) = 1 := if_pos hc
    rw [h1, if_neg (by decide)] at h
    obtain ⟨G1, G2, e1, e2, k1, k2, k3, k4⟩ := two_cells (a' := 0) (b' := 0) h3 h4
    have last : ∀ {e : Env}, eget e 6 = .ptr (p + 3) 0 0 → eget e 7 = .ptr (p + 4) 0 0 → eget e 8 = .int .i64 1 → (aResList Try.prog e G2 [.cell 6 3, .cell 7 3, .tmp 8]).map (fun | [v] => v | vs => AV.tuple vs) = some (.tuple [.int .i64 0, .int .i64 0, .int .i64 1]) := fun g1 g2 g3 => fin g1 g2 g3 k1 k2
    have hQ := h G2 ⟨by omega, fun j hj => by rw [k4 j (by omega) (by omega)]; exact hE.2 j hj⟩
    by_cases hc0 : c < 0
    · refine L_reg [3, 4, 5, 6, 7, 22] (fun K hK => ?_)
      simp [ec, pickV, hc0]
      apply hK; clear hK K
      refine L_true (by simp) ?_
      refine L_reg [6, 7, 8] (fun K hK => ?_)
      simp [e1, e2]
      apply hK; clear hK K
      exact L_ret ⟨.inr rfl, _, last rfl rfl rfl, hQ⟩
    · refine L_reg [3, 4, 5, 6, 7, 22] (fun K hK => ?_)
      simp [ec, pickV, hc0]
      apply hK; clear hK K
      refine L_true (by simp; omega) ?_
      refine L_reg [6, 7, 8] (fun K hK => ?_)
      simp [e1, e2]
      apply hK; clear hK K
      exact L_ret ⟨.inr rfl, _, last rfl rfl rfl, hQ⟩
  have h1 : (if c < 0 ∨ 10 < c then (1 : Int) else 0) = 0 := if_neg hc
  rw [h1, if_pos rfl] at h
  refine L_reg [3, 4, 5, 6, 7, 22] (fun K hK => ?_)
  simp [ec, pickV, show ¬ c < 0 by omega]
  apply hK; clear hK K
  refine L_false (by simp; omega) ?_
  obtain ⟨hfine, hok⟩ := with_ok he
  have hrec : recE ws lo hi = 0 := by
    unfold withE at he; split at he
    · assumption
    · exact he
  have hbl := okb_len hok
  have hws := (rec_ok hrec).2.1
  obtain ⟨G1, G2, e1, e2, k1, k2, k3, k4⟩ := two_cells (a' := weighS ws b) (b' := weighS ws b) h3 h4
  refine L_regW mixed 6 [3, 4, 5, 6, 7] (by kernel_rfl) (fun K hK => ?_)
  simp [okFn_low, d3, eb]
  refine exX_mk (fun Q hQ => weigh_q _ _ ws b lo hi H1 hfine hv hu Q hQ) (.refl _) ?_
  simp [okFn_low, d3, eb]
  refine exX_mk (fun Q hQ => weigh_q _ _ ws b lo hi H1 hfine hv hu Q hQ) (.refl _) ?_
  simp [e1, e2]
  apply hK; clear hK K
  have hE : Ext H G2 := ⟨by omega, fun j hj => by rw [k4 j (by omega) (by omega)]; exact hE.2 j hj⟩
  have hR : RecRow G2 p (.slice r off ws.length ver sz full) lo hi := by
    obtain ⟨sr, hR⟩ := hR
    exact ⟨sr, by rw [k4 p (by omega) (by omega)]; exact hR⟩
  have hB : G2[p + 1]? = some (.row [.slice r2 off2 b.length ver2 sz2 full2] 0 0 false) := by rw [k4 _ (by omega) (by omega)]; exact hB
  have hC : G2[p + 2]? = some (.row [.int .i64 c] 0 0 false) := by rw [k4 _ (by omega) (by omega)]; exact hC
  clear h3 h4 ec eb d3 d0 hv hu e1 e2 k4
  have hv := hv0.ext hE
  have hu := hu0.ext hE
  obtain ⟨d0, -, -, -⟩ := hR.lds
  have eb : ld G2 (p + 1) 0 0 = some (.slice r2 off2 b.length ver2 sz2 full2) := by rw [ld_row hB]; rfl
  refine L_reg [3, 4, 5, 6, 7, 34] (fun K hK => ?_)
  simp [okFn_low, d0, eb]
  refine round_ac ws.length b.length _ _ ?_
  simp
  apply hK; clear hK K
  have hgp : p + 5 ≤ G2.length := by have := lt_of_row k2; omega
  have a2 : (G2 ++ [AObj.row [.int .i64 ws.length] 0 0 false, .row [.int .i64 b.length] 0 0 false])[G2.length]? = some (.row [.int .i64 ws.length] 0 0 false) := by simp
  have a3 : (G2 ++ [AObj.row [.int .i64 ws.length] 0 0 false, .row [.int .i64 b.length] 0 0 false])[G2.length + 1]? = some (.row [.int .i64 b.length] 0 0 false) := by simp
  have a4 : (G2 ++ [AObj.row [.int .i64 ws.length] 0 0 false, .row [.int .i64 b.length] 0 0 false]).length = G2.length + 2 := by simp
  have aE := Ext.push G2 [AObj.row [.int .i64 ws.length] 0 0 false, .row [.int .i64 b.length] 0 0 false]
  have hR := hR.ext aE
  have hB := aE.row hB
  have hC := aE.row hC
  have k1 := aE.row k1
  have k2 := aE.row k2
  have a5 := hE.trans aE
  generalize G2 ++ [AObj.row [.int .i64 ws.length] 0 0 false, .row [.int .i64 b.length] 0 0 false] = H3 at *
  generalize G2.length = g at *
  refine L_block (L_range [3, 4, 5, 6, 7] rfl (okFn_low (by omega) (by omega)) ?_)
  generalize hL : (⟨53, _, _, _, _⟩ : LR) = L
  have hnt : L.nt = 53 := by rw [← hL]
  have hps : L.ps = #[35] := by rw [← hL]
  have hass := congrArg LR.assign hL.symm
  have hee : L.e = [(3, .ptr p 0 0), (4, .ptr (p + 1) 0 0), (5, .ptr (p + 2) 0 0), (6, .ptr (p + 3) 0 0), (7, .ptr (p + 4) 0 0)] := by rw [← hL]; rfl
  have hbody := congrArg LR.body hL.symm
  clear hL
  have hFl := roundS_len ws.length b.length
  have hFo : ∀ x ∈ roundS ws.length b.length, Okb ws.length x := fun x hx => okb_round hx
  generalize hF : roundS ws.length b.length = F at *
  have hr0 : (H3 ++ [AObj.loop .ready .normal L])[H3.length]? = some (.loop .ready .normal L) := by simp
  have hlen : (H3 ++ [AObj.loop .ready .normal L]).length = g + 3 := by simp [a4]
  have hin : ∀ j, j < H3.length → (H3 ++ [AObj.loop .ready .normal L])[j]? = H3[j]? := fun j hj => List.getElem?_append_left hj
  refine round1_ac ws.length b.length hbl hws H3.length (g + 1) g 0 0 (fun rest H' => (∀ x ∈ rest, x ∈ F) ∧ g + 3 ≤ H'.length ∧ (∃ done s1 s2, done ++ rest = F ∧ H'[p + 3]? = some (.row [.int .i64 (lowS ws b c done)] 0 s1 false) ∧ H'[p + 4]? = some (.row [.int .i64 (highS ws b c done)] 0 s2 false)) ∧
      RecRow H' p (.slice r off ws.length ver sz full) lo hi ∧ H'[p + 1]? = some (.row [.slice r2 off2 b.length ver2 sz2 full2] 0 0 false) ∧ H'[p + 2]? = some (.row [.int .i64 c] 0 0 false) ∧ H'[H3.length]? = some (.loop .ready .normal L) ∧ Ext H H')
    (fun _ => False) _ _ (by rw [hin _ (by omega)]; exact a3) (by rw [hin _ (by omega)]; exact a2) (by simp) ?_ ?_ ?_ ?_
  · rw [hlen]
    refine ⟨fun rest H5 H6 hsame ⟨gm, g0, ⟨done, s1, s2, g1, c3, c4⟩, ⟨sr, g3⟩, gB, gC, g4, g5⟩ => ?_, fun l rest H5 st ⟨gm, g0, ⟨done, s1, s2, g1, c3, c4⟩, ⟨sr, g3⟩, gB, gC, g4, g5⟩ hrow => ?_⟩
    · have hge := hsame.1
      exact ⟨gm, by omega, ⟨done, s1, s2, g1, (hsame.2 _ (by omega) (by omega)).trans c3, (hsame.2 _ (by omega) (by omega)).trans c4⟩, ⟨sr, (hsame.2 _ (by omega) (by omega)).trans g3⟩, (hsame.2 _ (by omega) (by omega)).trans gB, (hsame.2 _ (by omega) (by omega)).trans gC, (hsame.2 _ (by omega) (by omega)).trans g4, below_ext (w := p) g5 (by omega) (by omega) (fun j hj => hsame.2 j (by omega) (by omega))⟩
    · have hwl := lt_of_row hrow
      have hlF := gm l (by simp)
      have hlb : l.length = b.length := hFl l hlF
      have hlo := hFo l hlF
      refine AYld_mkA g4 (by rw [hps]; rfl) (by rw [hps, hnt]; simp) ?_
      rw [hnt, hps, hee, hass]
      refine L_reg [3, 4, 5, 6, 7, 10] (fun K hK => ?_)
      simp [psEnv]
      apply hK; clear hK K
      refine ⟨rfl, .normal, L, g4, ?_⟩
      rw [hbody]
      generalize hHb : H5.set H3.length (.loop .busy .normal L) = Hb
      have hOff : ∀ j, j ≠ H3.length → Hb[j]? = H5[j]? := fun j hj => by rw [← hHb, set_ne (Ne.symm hj)]
      have bR : RecRow Hb p (.slice r off ws.length ver sz full) lo hi := ⟨sr, (hOff _ (by omega)).trans g3⟩
      have bB := (hOff (p + 1) (by omega)).trans gB
      have bC := (hOff (p + 2) (by omega)).trans gC
      have b3 := (hOff (p + 3) (by omega)).trans c3
      have b4 := (hOff (p + 4) (by omega)).trans c4
      have bw := (hOff (g + 3) (by omega)).trans hrow
      have br : Hb[H3.length]? = some (.loop .busy .normal L) := by rw [← hHb, List.getElem?_set_self (by omega)]
      have bE : Ext H Hb := by rw [← hHb]; exact g5.set _ (by omega)
      have bl : Hb.length = H5.length := by rw [← hHb]; simp
      obtain ⟨-, -, -, d3⟩ := bR.lds
      have eb : ld Hb (p + 1) 0 0 = some (.slice r2 off2 b.length ver2 sz2 full2) := by rw [ld_row bB]; rfl
      have ec : ld Hb (p + 2) 0 0 = some (.int .i64 c) := by rw [ld_row bC]; rfl
      have e3 : ld Hb (p + 3) 0 0 = some (.int .i64 (lowS ws b c done)) := by rw [ld_row b3]; rfl
      have e4 : ld Hb (p + 4) 0 0 = some (.int .i64 (highS ws b c done)) := by rw [ld_row b4]; rfl
      have hLw : Ls Hb (.slice (some (g + 3)) 0 b.length 0 1 false) l := by
        have := Ls.row bw false
        rwa [hlb] at this
      have hLb := hu0.ext bE
      have hLs := hv0.ext bE
      have ht1 := low_snoc (ws := ws) (b := b) (c := c) (x := l) (F := done)
      have ht2 := high_snoc (ws := ws) (b := b) (c := c) (x := l) (F := done)
      refine L_block ?_
      refine L_regY mixed [3, 6, 7, 10, 40] (by kernel_rfl) (fun K hK => ?_)
      simp [okFn_low, eb]
      refine exX_mk (fun Q hQ => distance_q _ _ b l Hb (by omega) (by omega) hLb hLw Q hQ) (.refl _) ?_
      simp [ec]
      apply hK; clear hK K
      refine L_dec (((lack b l).length : Int) ≤ c) rfl (fun h2 => ?_) (fun h2 => ?_)
      · rw [closeB, decide_eq_true h2, if_pos rfl] at ht1 ht2
        obtain ⟨G3, G4, x1, x2, y1, y2, y3, y4, y5⟩ := two_cellsK (a' := min (lowS ws b c done) (weighS ws l)) (b' := max (highS ws b c done) (weighS ws l)) b3 b4
        refine L_regZ mixed [p + 3] [1, 0, 0, 0, 0, 2, 1, 0, 0, 0] [false] [] (by kernel_rfl) (fun K hK => ?_)
        simp [okFn_low, e3, d3]
        refine exX_mk (fun Q hQ => weigh_q _ _ ws l lo hi Hb (fine_of hrec hlo) hLs hLw Q hQ) (.refl _) ?_
        simp [okFn_low, e4, d3, KeepS.refl]
        refine exX_mk (fun Q hQ => weigh_q _ _ ws l lo hi Hb (fine_of hrec hlo) hLs hLw Q hQ) (.refl _) ?_
        simp [x1, x2, y5, KeepS.refl]
        apply hK; clear hK K
        refine ⟨.busy, .normal, L, (y4 _ (by omega) (by omega)).trans br, true, rfl, ?_⟩
        simp only [if_true]
        refine ⟨⟨fun x hx => gm x (by simp [hx]), by simp; omega, ⟨done ++ [l], 0, 0, by simpa using g1, ?_, ?_⟩, ?_, ?_, ?_, ?_, ?_⟩, ⟨by simp; omega, fun j N0 r0 s0 h1 h2 => ?_⟩, st, ?_⟩
        · rw [set_ne (by omega), ht1]; exact y1
        · rw [set_ne (by omega), ht2]; exact y2
        · obtain ⟨sr, bR⟩ := bR
          exact ⟨sr, by rw [set_ne (by omega), y4 _ (by omega) (by omega)]; exact bR⟩
        · rw [set_ne (by omega), y4 _ (by omega) (by omega)]; exact bB
        · rw [set_ne (by omega), y4 _ (by omega) (by omega)]; exact bC
        · rw [List.getElem?_set_self (by omega)]
        · have : Ext H G4 := ⟨by have := bE.1; omega, fun j hj => by rw [y4 j (by omega) (by omega)]; exact bE.2 j hj⟩
          exact this.set _ (by omega)
        · rw [set_ne (by omega), y4 _ (by omega) (by omega)]
          exact (hOff j (by omega)).trans h2
        · rw [set_ne (by omega), y4 _ (by omega) (by omega)]; exact bw
      · rw [closeB, decide_eq_false h2, if_neg (by decide)] at ht1 ht2
        refine ⟨.busy, .normal, L, br, true, rfl, ?_⟩
        simp only [if_true]
        refine ⟨⟨fun x hx => gm x (by simp [hx]), by simp; omega, ⟨done ++ [l], s1, s2, by simpa using g1, ?_, ?_⟩, ?_, ?_, ?_, ?_, bE.set _ (by omega)⟩, ⟨by simp; omega, fun j N0 r0 s0 h1 h2 => ?_⟩, st, ?_⟩
        · rw [set_ne (by omega), ht1]; exact b3
        · rw [set_ne (by omega), ht2]; exact b4
        · obtain ⟨sr, bR⟩ := bR
          exact ⟨sr, by rw [set_ne (by omega)]; exact bR⟩
        · rw [set_ne (by omega)]; exact bB
        · rw [set_ne (by omega)]; exact bC
        · rw [List.getElem?_set_self (by omega)]
        · rw [set_ne (by omega)]
          exact (hOff j (by omega)).trans h2
        · rw [set_ne (by omega)]; exact bw
  · refine ⟨fun x hx => by rw [← hF]; exact hx, by omega, ⟨[], 0, 0, by rw [hF]; rfl, (hin _ (by omega)).trans k1, (hin _ (by omega)).trans k2⟩, hR.ext (.push _ _), (hin _ (by omega)).trans hB, (hin _ (by omega)).trans hC, hr0, a5.trans (.push _ _)⟩
  · rintro H' ⟨-, g0, ⟨done, s1, s2, g1, c3, c4⟩, -, -, -, g4, g5⟩
    refine ⟨.ready, .normal, L, g4, by simp, ?_⟩
    rw [List.append_nil] at g1
    subst g1
    have m3 : (H'.set H3.length (.loop .exhausted .normal L))[p + 3]? = _ := (set_ne (by omega)).trans c3
    have m4 : (H'.set H3.length (.loop .exhausted .normal L))[p + 4]? = _ := (set_ne (by omega)).trans c4
    have hX := g5.set (.loop .exhausted .normal L) (by omega : H.length ≤ H3.length)
    generalize H'.set H3.length (.loop .exhausted .normal L) = Hz at *
    obtain ⟨G3, G4, x1, x2, y1, y2, y3, y4, y5⟩ := two_cellsK (a' := lowS ws b c done) (b' := highS ws b c done) m3 m4
    have z3 : ld Hz (p + 3) 0 0 = some (.int .i64 (lowS ws b c done)) := by rw [ld_row m3]; rfl
    have z4 : ld Hz (p + 4) 0 0 = some (.int .i64 (highS ws b c done)) := by rw [ld_row m4]; rfl
    show AWL _ _ _ _ _ _
    refine L_regS mixed [p + 3] [false, true, false] [6, 7, 8] (by kernel_rfl) (fun K hK => ?_)
    simp [z3, z4, x1, x2, y5]
    apply hK; clear hK K
    refine L_ret ⟨.inr rfl, _, fin rfl rfl rfl y1 y2, h G4 ⟨by have := hX.1; omega, fun j hj => by rw [y4 j (by omega) (by omega)]; exact hX.2 j hj⟩⟩
  · intro H' h; exact h.elim
end Go.Proofs.Ytmoifofihafgmaa

/- BlendNearest, walked. -/
namespace Go.Proofs.Ytmoifofihafgmaa
open Go Go.Proofs.Ytmoifofihafgmaa.AX

theorem nearer_or (b m x : List Int) : nearer b m x = m ∨ nearer b m x = x := by
  unfold nearer
  split
  · first | exact .inl rfl | exact .inr rfl
  · first | exact .inl rfl | exact .inr rfl
theorem best_fold_mem {b : List Int} : ∀ (l : List (List Int)) (m : List Int), l.foldl (nearer b) m = m ∨ l.foldl (nearer b) m ∈ l
  | [], m => .inl rfl
  | x :: l, m => by
    rw [List.foldl_cons]
    rcases best_fold_mem l (nearer b m x) with h | h
    · rcases nearer_or b m x with h2 | h2 <;> rw [h, h2] <;> simp
    · exact .inr (List.mem_cons_of_mem _ h)
theorem bestS_mem {b m : List Int} {l : List (List Int)} (h : bestS b l = some m) : m ∈ l := by
  cases l with
  | nil => cases h
  | cons x l =>
    simp only [bestS, Option.some.injEq] at h
    rcases best_fold_mem (b := b) l x with h2 | h2
    · rw [← h, h2]; simp
    · rw [← h]; exact List.mem_cons_of_mem _ h2
theorem nearS_len (ws : List Int) (lo hi : Int) (b : List Int) (hb : b.length ≤ 1000) : (nearS ws lo hi b).length ≤ 1000 := by
  unfold nearS
  split
  · cases h : bestS b ((roundS ws.length b.length).filter (fitB ws lo hi)) with
    | none => simp
    | some m =>
      have := roundS_len _ _ _ (List.mem_filter.1 (bestS_mem h)).1
      simp; omega
  · simp
set_option maxRecDepth 100000 in
theorem blendNearest_ac (vw vb : AV) (ws b : List Int) (lo hi k : Int) (H : AH) (hw : Ls H vw ws) (hb : Ls H vb b) : AC Try.prog 6 [.agg [vw, .int .i64 lo, .int .i64 hi], vb, .int .i64 k] H fun u _ => u = .bool true := by
  obtain ⟨r, off, ver, sz, full, rfl, -⟩ := id hw
  obtain ⟨r2, off2, ver2, sz2, full2, rfl, -⟩ := id hb
  refine L_body 79 Try.func6 rfl rfl ?_
  refine L_reg [1, 2, 3] (fun K hK => ?_)
  simp [AV.isU, acells]
  apply hK; clear hK K
  have hE := Ext.push H [AObj.row [.slice r off ws.length ver sz full, .int .i64 lo, .int .i64 hi] 0 0 false]
  have hR := RecRow.new H (.slice r off ws.length ver sz full) lo hi 0
  have hw := hw.ext hE
  have hb := hb.ext hE
  generalize H ++ [AObj.row [.slice r off ws.length ver sz full, .int .i64 lo, .int .i64 hi] 0 0 false] = Ha at *
  generalize H.length = q at *
  obtain ⟨d0, -⟩ := hR.lds
  have hrow := row37_2 Ha (x := .slice r off ws.length ver sz full) (y := .slice r2 off2 b.length ver2 sz2 full2) rfl rfl rfl rfl
  have hE0 : Ext Ha (Ha ++ [AObj.row [.slice r off ws.length ver sz full, .slice r2 off2 b.length ver2 sz2 full2] 0 2 false]) := .push _ _
  have hr0 : (Ha ++ [AObj.row [.slice r off ws.length ver sz full, .slice r2 off2 b.length ver2 sz2 full2] 0 2 false])[Ha.length]? = some (.row [.slice r off ws.length ver sz full, .slice r2 off2 b.length ver2 sz2 full2] 0 2 false) := by simp
  have hw := hw.ext hE0
  have hb := hb.ext hE0
  have hR := hR.ext hE0
  generalize Ha ++ [AObj.row [.slice r off ws.length ver sz full, .slice r2 off2 b.length ver2 sz2 full2] 0 2 false] = H0 at *
  have hlss : Lss H0 (.slice (some Ha.length) 0 2 0 1 false) [ws, b] := by
    refine ⟨some Ha.length, 0, 0, 1, false, rfl, fun i hi => ?_⟩
    have : i = 0 ∨ i = 1 := by simp at hi; omega
    rcases this with rfl | rfl
    · exact ⟨Ha.length, _, rfl, rfl, by rw [ld_row hr0]; rfl, hw⟩
    · exact ⟨Ha.length, _, rfl, rfl, by rw [ld_row hr0]; rfl, hb⟩
  refine L_reg [1, 2, 3, 22] (fun K hK => ?_)
  simp [okFn_low, d0, hrow]
  refine larges_ac [ws, b] _ H0 _ (by simp) hlss ?_
  simp
  apply hK; clear hK K
  by_cases hbig : 60 < ws.length ∨ 60 < b.length
  · refine L_true (by simp; omega) ?_
    refine L_reg [6] (fun K hK => ?_)
    simp [okFn_low]
    refine works_ac _ _ ?_
    simp
    apply hK; clear hK K
    exact L_ret ⟨.inr rfl, _, rfl, rfl⟩
  refine L_false (by simp; omega) ?_
  have hwl : ws.length ≤ 1000000 := by omega
  have hbl : b.length ≤ 1000000 := by omega
  obtain ⟨-, -, -, d3⟩ := hR.lds
  have hrz : (H0 ++ [AObj.row [.slice none 0 0 0 1 false, .int .i64 0, .int .i64 0] 0 0 false])[H0.length]? = some (.row [.slice none 0 0 0 1 false, .int .i64 0, .int .i64 0] 0 0 false) := by simp
  have hst := store_agg ag44 (vs := [.slice r off ws.length ver sz full, .int .i64 lo, .int .i64 hi]) hrz (by decide) rfl (by simp) rfl (by simp [AV.one])
  have hEs : Ext H0 ((H0 ++ [AObj.row [.slice none 0 0 0 1 false, .int .i64 0, .int .i64 0] 0 0 false]).set H0.length (.row [.slice r off ws.length ver sz full, .int .i64 lo, .int .i64 hi] 0 0 false)) := (Ext.push _ _).set _ (Nat.le_refl _)
  have hR2 : RecRow ((H0 ++ [AObj.row [.slice none 0 0 0 1 false, .int .i64 0, .int .i64 0] 0 0 false]).set H0.length (.row [.slice r off ws.length ver sz full, .int .i64 lo, .int .i64 hi] 0 0 false)) H0.length (.slice r off ws.length ver sz full) lo hi := ⟨0, get_set hrz⟩
  have hw := hw.ext hEs
  have hb := hb.ext hEs
  have hR := hR.ext hEs
  generalize hH1 : (H0 ++ [AObj.row [.slice none 0 0 0 1 false, .int .i64 0, .int .i64 0] 0 0 false]).set H0.length (.row [.slice r off ws.length ver sz full, .int .i64 lo, .int .i64 hi] 0 0 false) = H1 at *
  refine L_reg [1, 2, 3, 7] (fun K hK => ?_)
  simp [d3, alloc_z zt44, hst]
  apply hK; clear hK K
  clear hst hrz hH1 hEs
  generalize H0.length = q2 at *
  obtain ⟨-, -, -, d3⟩ := hR.lds
  obtain ⟨-, -, -, f3⟩ := hR2.lds
  refine L_reg [1, 2, 3, 7, 8, 9] (fun K hK => ?_)
  simp [okFn_low, d3]
  refine Nearest_ac _ _ ws b lo hi H1 _ hwl hbl hw hb (fun u1 H2 hu1 hE2 => ?_)
  simp
  apply hK; clear hK K
  have hw := hw.ext hE2
  have hb := hb.ext hE2
  have hR := hR.ext hE2
  have hR2 := hR2.ext hE2
  obtain ⟨-, -, -, d3⟩ := hR.lds
  obtain ⟨-, -, -, f3⟩ := hR2.lds
  refine L_reg [1, 2, 3, 7, 8, 9, 10, 11] (fun K hK => ?_)
  simp [okFn_low, f3]
  refine rNearest_ac _ _ ws b lo hi H2 _ hwl hbl hw hb (fun u2 H3 hu2 hE3 => ?_)
  simp
  apply hK; clear hK K
  have hw := hw.ext hE3
  have hb := hb.ext hE3
  have hu1 := hu1.ext hE3
  have hR := hR.ext hE3
  have hR2 := hR2.ext hE3
  obtain ⟨-, -, -, d3⟩ := hR.lds
  refine L_reg [1, 2, 7, 8, 9, 10, 11, 12, 13, 14] (fun K hK => ?_)
  simp [okFn_low, d3]
  refine Reach_ac _ _ ws b lo hi k H3 _ hwl hbl hw hb (fun H4 hE4 => ?_)
  simp
  apply hK; clear hK K
  have hw := hw.ext hE4
  have hb := hb.ext hE4
  have hu1 := hu1.ext hE4
  have hu2 := hu2.ext hE4
  have hR2 := hR2.ext hE4
  obtain ⟨-, -, -, f3⟩ := hR2.lds
  refine L_reg [8, 9, 10, 11, 12, 13, 14, 15, 16, 17] (fun K hK => ?_)
  simp [okFn_low, f3]
  refine rReach_ac _ _ ws b lo hi k H4 _ hwl hbl hw hb (fun H5 hE5 => ?_)
  simp
  apply hK; clear hK K
  have hu1 := hu1.ext hE5
  have hu2 := hu2.ext hE5
  refine L_reg [6] (fun K hK => ?_)
  simp [okFn_low]
  refine same_ac _ _ _ _ _ _ (by have := nearS_len ws lo hi b (by omega); omega) hu1 hu2 ?_
  simp [okFn_low, pickV]
  refine works_ac _ _ ?_
  simp [pickV]
  apply hK; clear hK K
  exact L_ret ⟨.inr rfl, _, rfl, rfl⟩
end Go.Proofs.Ytmoifofihafgmaa
