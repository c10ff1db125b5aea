/- Count, Number, Nth and Next of the program. -/
import Derived.Test.YtpdcmdmhamnndaaMath
namespace Go.Proofs.Ytpdcmdmhamnndaa
open Go Go.Proofs.Ytpdcmdmhamnndaa.AX

def fS (n k : Int) : List (List Int) := roundS n.toNat k.toNat
def countS (n k : Int) : Int := if sizeE n k = 0 then ((fS n k).length : Int) else 0
def numS (n : Int) (b : List Int) : Int := if checkE n b = 0 then (idxS b (fS n b.length) : Int) else 0
def nthE (n k i : Int) : Int := if sizeE n k = 0 then (if i < 0 ∨ ((fS n k).length : Int) ≤ i then 2 else 0) else sizeE n k
def nthS (n k i : Int) : List Int := if nthE n k i = 0 then (fS n k)[i.toNat]?.getD [] else []
def nextE (n : Int) (b : List Int) : Int := if checkE n b = 0 then (if b.length = 0 ∨ (b.length : Int) = n then 12 else 0) else checkE n b
def nextS (n : Int) (b : List Int) : List Int := if nextE n b = 0 then (fS n b.length)[(idxS b (fS n b.length) + 1) % (fS n b.length).length]?.getD [] else []
def outS (n : Int) (b : List Int) : Int := if nextE n b = 0 then (lack b (nextS n b)).headD 0 else 0
def inS (n : Int) (b : List Int) : Int := if nextE n b = 0 then (lack (nextS n b) b).headD 0 else 0

theorem leaves_ok {n : Int} (h : leavesE n = 0) : 1 ≤ n ∧ n ≤ 10 := by
  unfold leavesE at h
  split at h <;> omega
theorem size_ok {n k : Int} (h : sizeE n k = 0) : ∃ N K : Nat, n = (N : Int) ∧ k = (K : Int) ∧ K ≤ N ∧ N ≤ 10 ∧ 1 ≤ N := by
  unfold sizeE at h
  split at h
  · rename_i h1
    have := leaves_ok h1
    split at h
    · omega
    · exact ⟨n.toNat, k.toNat, by omega, by omega, by omega, by omega, by omega⟩
  · contradiction
theorem check_ok {n : Int} {b : List Int} (h : checkE n b = 0) : ∃ N : Nat, n = (N : Int) ∧ N ≤ 10 ∧ 1 ≤ N ∧ Okb N b := by
  unfold checkE at h
  split at h
  · rename_i h1
    have h2 := leaves_ok h1
    obtain ⟨N, rfl⟩ : ∃ N : Nat, n = (N : Int) := ⟨n.toNat, by omega⟩
    obtain ⟨g1, g2⟩ := chk_ok h
    exact ⟨N, rfl, by omega, by omega, fun x hx => (g1 x hx).1, g2⟩
  · contradiction

theorem Count_ac (n k : Int) (H : AH) (Q : AV → AH → Prop) (h : Q (.tuple [.int .i64 (countS n k), .int .i64 (sizeE n k)]) H) : AC Try.prog 16 [.int .i64 n, .int .i64 k] H Q := by
  refine L_body 16 Try.func16 rfl rfl ?_
  refine L_reg [0, 1] (fun K hK => ?_)
  simp
  apply hK; clear hK K
  refine L_reg [0, 1, 6] (fun K hK => ?_)
  simp [okFn_low]
  refine checkSize_ac n k _ _ ?_
  simp
  apply hK; clear hK K
  refine L_reg [0, 1, 6, 11] (fun K hK => ?_)
  simp
  apply hK; clear hK K
  unfold countS at h
  refine L_split rfl (fun ht => ?_) (fun hf => ?_)
  · have hne : sizeE n k ≠ 0 := by simpa using ht
    rw [if_neg hne] at h
    refine L_reg [4, 5] (fun K hK => ?_)
    simp
    apply hK; clear hK K
    exact L_ret ⟨.inr rfl, _, rfl, h⟩
  · have he : sizeE n k = 0 := by simpa using hf
    rw [if_pos he, he] at h
    obtain ⟨N, M, rfl, rfl, hK1, hN, -⟩ := size_ok he
    refine L_reg [4, 5] (fun K hK => ?_)
    simp [okFn_low]
    refine many_q N M hK1 hN _ _ (by have := round_le2 (k := M) hN; omega) ?_
    simp
    apply hK; clear hK K
    exact L_ret ⟨.inr rfl, _, rfl, by simpa [fS] using h⟩
theorem Number_ac (n : Int) (v : AV) (b : List Int) (H : AH) (Q : AV → AH → Prop) (hb : b.length ≤ 1000000) (hv : Ls H v b) (h : Q (.tuple [.int .i64 (numS n b), .int .i64 (checkE n b)]) H) : AC Try.prog 18 [.int .i64 n, v] H Q := by
  obtain ⟨r0, off0, ver0, sz0, full0, hv0, -⟩ := id hv
  refine L_body 16 Try.func18 rfl rfl ?_
  refine L_reg [0, 1] (fun K hK => ?_)
  simp
  apply hK; clear hK K
  refine L_reg [0, 1, 6] (fun K hK => ?_)
  simp [okFn_low]
  refine Check_ac n v b _ _ hb hv ?_
  simp
  apply hK; clear hK K
  refine L_reg [0, 1, 6, 11] (fun K hK => ?_)
  simp
  apply hK; clear hK K
  unfold numS at h
  refine L_split rfl (fun ht => ?_) (fun hf => ?_)
  · have hne : checkE n b ≠ 0 := by simpa using ht
    rw [if_neg hne] at h
    refine L_reg [4, 5] (fun K hK => ?_)
    simp
    apply hK; clear hK K
    exact L_ret ⟨.inr rfl, _, rfl, h⟩
  · have he : checkE n b = 0 := by simpa using hf
    rw [if_pos he, he] at h
    obtain ⟨N, rfl, hN, -, hok⟩ := check_ok he
    refine L_reg [4, 5] (fun K hK => ?_)
    simp [okFn_low]
    refine place_q N v b (okb_len hok) hN _ hv (by have := round_le2 (k := b.length) hN; omega) _ ?_
    simp
    apply hK; clear hK K
    exact L_ret ⟨.inr rfl, _, rfl, by simpa [fS] using h⟩
theorem Ls.none (H : AH) : Ls H (.slice none 0 0 0 1 false) [] := ⟨Option.none, 0, 0, 1, false, rfl, fun i hi => by simp at hi⟩
theorem ownF_ls {N : Nat} {H : AH} {v : AV} {l : List Int} (h : OwnF N H v (l.map (.int .i64))) : Ls H v l := by
  rcases h with ⟨h1, rfl⟩ | ⟨r, ver, stale, h1, rfl, h3⟩
  · obtain rfl : l = [] := by simpa using h1
    exact Ls.none H
  · have := Ls.row h3 false
    simpa using this
theorem Nth_ac (n k i : Int) (H : AH) (Q : AV → AH → Prop) (h : ∀ v' H', Ls H' v' (nthS n k i) → Ext H H' → Q (.tuple [v', .int .i64 (nthE n k i)]) H') : AC Try.prog 20 [.int .i64 n, .int .i64 k, .int .i64 i] H Q := by
  refine L_body 28 Try.func20 rfl rfl ?_
  refine L_reg [0, 1, 2] (fun K hK => ?_)
  simp
  apply hK; clear hK K
  refine L_reg [0, 1, 2, 8] (fun K hK => ?_)
  simp [okFn_low]
  refine checkSize_ac n k _ _ ?_
  simp
  apply hK; clear hK K
  refine L_reg [0, 1, 2, 8, 13] (fun K hK => ?_)
  simp
  apply hK; clear hK K
  unfold nthS at h
  refine L_split rfl (fun ht => ?_) (fun hf => ?_)
  · have hne : sizeE n k ≠ 0 := by simpa using ht
    have hE : nthE n k i = sizeE n k := if_neg hne
    rw [hE, if_neg hne] at h
    refine L_reg [6, 7] (fun K hK => ?_)
    simp
    apply hK; clear hK K
    exact L_ret ⟨.inr rfl, _, rfl, h _ _ (Ls.none H) (.refl H)⟩
  · have he : sizeE n k = 0 := by simpa using hf
    obtain ⟨N, M, rfl, rfl, hK1, hN, -⟩ := size_ok he
    have hT := round_le2 (k := M) hN
    have hfS : fS N M = roundS N M := by simp [fS]
    have hE : nthE N M i = if i < 0 ∨ ((roundS N M).length : Int) ≤ i then 2 else 0 := by rw [← hfS]; exact if_pos he
    rw [hfS] at h
    by_cases hi : i < 0
    · rw [if_pos (.inl hi)] at hE
      rw [hE, if_neg (by decide)] at h
      refine L_reg [0, 1, 2, 23] (fun K hK => ?_)
      simp [pickV, hi]
      apply hK; clear hK K
      refine L_true (by simp) ?_
      refine L_reg [6, 7] (fun K hK => ?_)
      simp
      apply hK; clear hK K
      exact L_ret ⟨.inr rfl, _, rfl, h _ _ (Ls.none H) (.refl H)⟩
    · refine L_reg [0, 1, 2, 23] (fun K hK => ?_)
      simp [okFn_low, hi]
      refine many_q N M hK1 hN _ _ (by omega) ?_
      simp [pickV]
      apply hK; clear hK K
      refine L_dec (((roundS N M).length : Int) ≤ i) (by simp) (fun hge => ?_) (fun hlt => ?_)
      · rw [if_pos (.inr hge)] at hE
        rw [hE, if_neg (by decide)] at h
        refine L_reg [6, 7] (fun K hK => ?_)
        simp
        apply hK; clear hK K
        exact L_ret ⟨.inr rfl, _, rfl, h _ _ (Ls.none H) (.refl H)⟩
      · rw [if_neg (by omega)] at hE
        rw [hE, if_pos rfl] at h
        obtain ⟨m, rfl⟩ : ∃ m : Nat, i = (m : Int) := ⟨i.toNat, by omega⟩
        have hm : m < (roundS N M).length := by omega
        refine L_reg [6, 7] (fun K0 hK0 => ?_)
        simp [okFn_low]
        refine at_ac N M m hK1 hN H _ _ rfl hm (by omega) (fun v' H' hO hE => ?_)
        simp
        apply hK0; clear hK0 K0
        exact L_ret ⟨.inr rfl, _, rfl, h _ _ (by simpa [hm] using ownF_ls hO) hE⟩
theorem head_ls {H : AH} {l : List Int} (hne : l ≠ []) : ld (H ++ [.row (l.map (.int .i64)) 0 l.length false]) H.length 0 0 = some (.int .i64 (l.headD 0)) := by
  cases l with
  | nil => exact absurd rfl hne
  | cons x l => rw [ld_row (c := (x :: l).map (.int .i64)) (v := 0) (s := (x :: l).length) (ro := false) (by simp)]; rfl
set_option maxRecDepth 100000 in
theorem Next_ac (n : Int) (v : AV) (b : List Int) (H : AH) (Q : AV → AH → Prop) (hb : b.length ≤ 1000000) (hv : Ls H v b) (h : ∀ v' H', Ls H' v' (nextS n b) → Ext H H' → Q (.tuple [v', .int .i64 (outS n b), .int .i64 (inS n b), .int .i64 (nextE n b)]) H') : AC Try.prog 23 [.int .i64 n, v] H Q := by
  obtain ⟨r0, off0, ver0, sz0, full0, rfl, -⟩ := id hv
  refine L_body 47 Try.func23 rfl rfl ?_
  refine L_reg [0, 1] (fun K hK => ?_)
  simp
  apply hK; clear hK K
  refine L_reg [0, 1, 8] (fun K hK => ?_)
  simp [okFn_low]
  refine Check_ac n _ b _ _ hb hv ?_
  simp
  apply hK; clear hK K
  refine L_reg [0, 1, 8, 14] (fun K hK => ?_)
  simp
  apply hK; clear hK K
  refine L_split rfl (fun ht => ?_) (fun hf => ?_)
  · have hne : checkE n b ≠ 0 := by simpa using ht
    have hE : nextE n b = checkE n b := if_neg hne
    simp only [outS, inS, nextS, hE, if_neg hne] at h
    refine L_reg [4, 5, 6, 7] (fun K hK => ?_)
    simp
    apply hK; clear hK K
    exact L_ret ⟨.inr rfl, _, rfl, h _ _ (Ls.none H) (.refl H)⟩
  · have he : checkE n b = 0 := by simpa using hf
    have hE : nextE n b = if b.length = 0 ∨ (b.length : Int) = n then 12 else 0 := if_pos he
    obtain ⟨N, rfl, hN, -, hok⟩ := check_ok he
    have hT := round_le2 (k := b.length) hN
    have hfS : fS N b.length = roundS N b.length := by simp [fS]
    have hlb := okb_len hok
    refine L_reg [0, 1, 9] (fun K hK => ?_)
    simp
    apply hK; clear hK K
    by_cases hc : b.length = 0 ∨ (b.length : Int) = N
    · rw [if_pos hc] at hE
      simp only [outS, inS, nextS, hE] at h
      by_cases h0 : b.length = 0
      · refine L_reg [0, 1, 9, 24] (fun K hK => ?_)
        simp [pickV, show ((b.length : Int) == 0) = true by simpa using h0]
        apply hK; clear hK K
        refine L_true (by simp) ?_
        refine L_reg [4, 5, 6, 7] (fun K hK => ?_)
        simp
        apply hK; clear hK K
        exact L_ret ⟨.inr rfl, _, rfl, h _ _ (Ls.none H) (.refl H)⟩
      · have h1 : b.length = N := by omega
        refine L_reg [0, 1, 9, 24] (fun K hK => ?_)
        simp [pickV, show ((b.length : Int) == 0) = false by simpa using h0]
        apply hK; clear hK K
        refine L_true (by simp; omega) ?_
        refine L_reg [4, 5, 6, 7] (fun K hK => ?_)
        simp
        apply hK; clear hK K
        exact L_ret ⟨.inr rfl, _, rfl, h _ _ (Ls.none H) (.refl H)⟩
    · have h0 : b.length ≠ 0 := by omega
      have h1 : b.length ≠ N := by omega
      rw [if_neg hc] at hE
      obtain ⟨hlt, hne⟩ := next_ne hok h0 h1
      simp only [outS, inS, nextS, hE, if_true, hfS] at h
      have hi := (idxS_get (okb_mem hok)).1
      have hmem := List.getElem_mem hlt
      have hlen := roundS_len _ _ _ hmem
      have hokn := okb_round hmem
      generalize hF : roundS N b.length = F at *
      rw [List.getElem?_eq_getElem hlt] at h
      simp only [Option.getD_some] at h
      generalize hj : (idxS b F + 1) % F.length = j at *
      refine L_reg [0, 1, 9, 24] (fun K hK => ?_)
      simp [pickV, show ((b.length : Int) == 0) = false by simpa using h0]
      apply hK; clear hK K
      refine L_false (by simp; omega) ?_
      have hw : IntKind.i64.wrap ((idxS b F : Nat) + 1 : Int) = ((idxS b F + 1 : Nat) : Int) := by rw [wrap_i64 (by omega)]; rfl
      have hF0 : F.length ≠ 0 := by omega
      have hmod : ((idxS b F : Int) + 1).tmod (F.length : Int) = (j : Int) := by rw [← hj]; exact (Int.ofNat_tmod (idxS b F + 1) F.length).symm
      have hw2 : IntKind.i64.wrap ((j : Nat) : Int) = (j : Int) := wrap_i64 (by omega)
      refine L_reg [1, 4] (fun K hK => ?_)
      simp [okFn_low]
      refine place_q N _ b hlb hN _ hv (by rw [hF]; omega) _ ?_
      simp [okFn_low, hF, hw]
      refine many_q N b.length hlb hN _ _ (by rw [hF]; omega) ?_
      simp [okFn_low, hF, hF0, hmod, hw2]
      refine at_ac N b.length j hlb hN H _ _ hF hlt (by omega) (fun v' H1 hO hE1 => ?_)
      simp
      apply hK; clear hK K
      have hv1 := ownF_ls hO
      have hbv := hv.ext hE1
      have hl1 := lack_ne hok hokn hlen.symm (Ne.symm hne)
      have hl2 := lack_ne hokn hok hlen hne
      generalize hx : F[j] = x at *
      have hp1 : 0 < (lack b x).length := List.length_pos_iff.2 hl1
      have hp2 : 0 < (lack x b).length := List.length_pos_iff.2 hl2
      have e1 := head_ls (H := H1) hl1
      have hE2 : Ext H1 (H1 ++ [AObj.row ((lack b x).map (.int .i64)) 0 (lack b x).length false]) := .push _ _
      have e2 := head_ls (H := H1 ++ [AObj.row ((lack b x).map (.int .i64)) 0 (lack b x).length false]) hl2
      refine L_regX mixed [4, 5, 6, 7] (by kernel_rfl) (fun K hK => ?_)
      simp [okFn_low]
      refine exX_mk (fun Q hQ => lacking_q _ v' b x H1 (by omega) (by omega) hbv hv1 hl1 Q hQ) (.push _ _) ?_
      simp [okFn_low, hp1, e1]
      refine exX_mk (fun Q hQ => lacking_q v' _ x b _ (by omega) (by omega) (hv1.ext hE2) (hbv.ext hE2) hl2 Q hQ) (.push _ _) ?_
      simp [hp2] at e2 ⊢
      simp [e2]
      apply hK; clear hK K
      exact L_ret ⟨.inr rfl, _, rfl, by simpa using h v' _ (hv1.ext (hE2.trans (.push _ [AObj.row ((lack x b).map (.int .i64)) 0 (lack x b).length false]))) (hE1.trans (hE2.trans (.push _ [AObj.row ((lack x b).map (.int .i64)) 0 (lack x b).length false])))⟩
end Go.Proofs.Ytpdcmdmhamnndaa
