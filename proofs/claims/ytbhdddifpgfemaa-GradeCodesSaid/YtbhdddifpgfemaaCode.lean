/- The code of an order. -/
import Derived.Test.YtbhdddifpgfemaaCoded
namespace Go.Proofs.Ytbhdddifpgfemaa
open Go Go.Proofs.Ytbhdddifpgfemaa.AX

def cnt (l : List Int) (q j : Nat) : Nat := ((l.drop (q + 1)).take j).countP fun e => decide (e < l[q]?.getD 0)
def crow (l : List Int) (i j : Nat) : List Int := (List.range l.length).map fun q => if q < i then (cnt l q l.length : Int) else if q = i then (cnt l q j : Int) else 0
def codeS (l : List Int) : List Int := (List.range l.length).map fun q => (cnt l q l.length : Int)
def codeR (l : List Int) : List Int := if checkS l = 0 then codeS l else []
theorem cnt_zero (l : List Int) (q : Nat) : cnt l q 0 = 0 := by simp [cnt]
theorem cnt_le (l : List Int) (q j : Nat) : cnt l q j ≤ j := Nat.le_trans (List.countP_le_length) (by simp; omega)
theorem crow_first (l : List Int) : crow l 0 0 = List.replicate l.length 0 := by
  apply List.ext_getElem
  · simp [crow]
  · intro q h1 h2
    simp [crow, cnt_zero]
theorem crow_get (l : List Int) {i j : Nat} (hi : i < l.length) : ((crow l i j).map (AV.int .i64))[i]? = some (.int .i64 (cnt l i j)) := by
  simp [crow, hi]
theorem crow_set (l : List Int) (i j j' : Nat) : ((crow l i j).map (AV.int .i64)).set i (.int .i64 (cnt l i j')) = (crow l i j').map (.int .i64) := by
  apply List.ext_getElem
  · simp [crow]
  · intro q h1 h2
    rw [List.getElem_set]
    simp only [crow, List.getElem_map, List.getElem_range]
    by_cases hq : i = q
    · subst hq; simp
    · rw [if_neg hq]
      have : ¬ (q = i) := fun h => hq h.symm
      simp [this]
theorem cnt_full (l : List Int) {i m : Nat} (h : l.length ≤ m + (i + 1)) : cnt l i m = cnt l i l.length := by
  unfold cnt
  rw [List.take_of_length_le (by simp; omega), List.take_of_length_le (by rw [List.length_drop]; omega)]
theorem crow_next (l : List Int) (i : Nat) : crow l i (l.length - (i + 1)) = crow l (i + 1) 0 := by
  apply List.ext_getElem
  · simp [crow]
  · intro q h1 h2
    simp only [crow, List.getElem_map, List.getElem_range]
    by_cases hq : q < i
    · rw [if_pos hq, if_pos (by omega)]
    · rw [if_neg hq]
      by_cases he : q = i
      · subst he
        rw [if_pos rfl, if_pos (by omega), cnt_full l (by omega)]
      · rw [if_neg he, if_neg (by omega)]
        split
        · rw [cnt_zero]; rfl
        · rfl
theorem crow_last (l : List Int) : crow l l.length 0 = codeS l := by
  apply List.ext_getElem
  · simp [crow, codeS]
  · intro q h1 h2
    simp only [crow, codeS, List.getElem_map, List.getElem_range]
    rw [if_pos (by simpa [crow] using h1)]
theorem cnt_succ (l : List Int) {i j : Nat} (hi : i < l.length) (h : i + 1 + j < l.length) : cnt l i (j + 1) = cnt l i j + if l[i + 1 + j] < l[i] then 1 else 0 := by
  unfold cnt
  have h1 : j < (l.drop (i + 1)).length := by simp; omega
  rw [List.take_succ_eq_append_getElem h1, List.countP_append, List.getElem_drop]
  simp [hi, List.countP_cons]
theorem checkS_len {l : List Int} (h : checkS l = 0) : 1 ≤ l.length ∧ l.length ≤ 7 := by
  unfold checkS at h
  split at h
  · simp at h
  · split at h
    · simp at h
    · omega

set_option maxRecDepth 100000 in
theorem Code_ac (v : AV) (l : List Int) (H : AH) (Q : AV → AH → Prop) (hl : l.length ≤ 1000000) (hv : Ls H v l) (h : ∀ v' H', OwnF H.length H' v' ((codeR l).map (.int .i64)) → Ext H H' → Q (.tuple [v', .int .i64 (checkS l)]) H') : AC Try.prog 37 [v] H Q := by
  refine L_body 46 Try.func37 rfl rfl ?_
  refine L_reg [0] (fun K hK => ?_)
  simp
  apply hK; clear hK K
  refine L_reg [0, 4] (fun K hK => ?_)
  simp [okFn_low]
  refine Check_q v l H hl hv _ ?_
  simp
  apply hK; clear hK K
  refine L_reg [0, 4, 13] (fun K hK => ?_)
  simp
  apply hK; clear hK K
  unfold codeR at h
  refine L_split rfl (fun ht => ?_) (fun hf => ?_)
  · have hne : checkS l ≠ 0 := by simpa using ht
    rw [if_neg hne] at h
    refine L_reg [2, 3] (fun K hK => ?_)
    simp
    apply hK; clear hK K
    exact L_ret ⟨.inr rfl, _, rfl, h _ _ (OwnF.nil _ _) (.refl _)⟩
  · have he : checkS l = 0 := by simpa using hf
    rw [if_pos he] at h
    rw [he] at h
    obtain ⟨hl1, hl7⟩ := checkS_len he
    obtain ⟨r, off, ver, full, rfl, hld⟩ := Ls.flat hv (by omega)
    refine L_reg [0, 5] (fun K hK => ?_)
    simp [make_z elz22 (show l.length ≤ 16777216 by omega)]
    apply hK; clear hK K
    have hE0 : Ext H (H ++ [AObj.row (List.replicate l.length (AV.int .i64 0)) 0 0 false]) := .push _ _
    have h1 : (H ++ [AObj.row (List.replicate l.length (AV.int .i64 0)) 0 0 false])[H.length]? = some (.row ((crow l 0 0).map (.int .i64)) 0 0 false) := by simp [crow_first]
    generalize H ++ [AObj.row (List.replicate l.length (AV.int .i64 0)) 0 0 false] = H1 at hE0 h1 ⊢
    generalize hw : H.length = w at h h1 ⊢
    refine L_reg [0, 5, 18, 19, 20] (fun K hK => ?_)
    simp
    apply hK; clear hK K
    refine L_block (L_loopV [20] (fun m vs H' => ∃ (i s : Nat), m = l.length - i ∧ i ≤ l.length ∧ vs = [.int .i64 i] ∧ Ext H H' ∧ H'[w]? = some (.row ((crow l i 0).map (.int .i64)) 0 s false)) _ [.int .i64 (0 : Nat)] rfl ⟨0, 0, rfl, by omega, rfl, hE0, h1⟩ ?_)
    rintro m _ H2 ⟨i, s, rfl, hi, rfl, hE, hrow⟩
    refine L_reg [0, 5, 18, 19, 20, 21] (fun K hK => ?_)
    simp
    apply hK; clear hK K
    refine L_dec (i < l.length) (by simp) (fun hlt => ?_) (fun hge => L_exit ?_)
    · have hrd := hE.ld (hld i hlt)
      refine L_block ?_
      refine L_reg [0, 5, 6, 7, 18, 19, 20] (fun K hK => ?_)
      simp [hlt, hrd]
      apply hK; clear hK K
      have hsl : aSlice Try.prog 22 (.slice (some r) off l.length ver 1 full) (some (.int .i64 ((i : Int) + 1))) none none = some (.slice (some r) (off + (i + 1)) (l.length - (i + 1)) ver 1 full) := by
        have := slice_lo slz22 (some r) off l.length ver full (k := .i64) (i := i + 1) (by omega)
        simpa using this
      refine L_reg [0, 5, 6, 7, 18, 19, 20, 28, 29, 30] (fun K hK => ?_)
      simp [wrap_i64 (a := (i : Int) + 1) (by omega), hsl]
      apply hK; clear hK K
      obtain ⟨n, hn⟩ : ∃ n, n = l.length - (i + 1) := ⟨_, rfl⟩
      rw [← hn]
      refine L_block (L_loopV [30] (fun m vs H' => ∃ (j s : Nat), m = n - j ∧ j ≤ n ∧ vs = [.int .i64 j] ∧ Ext H H' ∧ H'[w]? = some (.row ((crow l i j).map (.int .i64)) 0 s false)) _ [.int .i64 (0 : Nat)] rfl ⟨0, s, rfl, by omega, rfl, hE, hrow⟩ ?_)
      rintro m _ H3 ⟨j, s3, rfl, hj, rfl, hE3, hrow3⟩
      refine L_reg [0, 5, 6, 7, 18, 19, 20, 28, 29, 30, 31] (fun K hK => ?_)
      simp
      apply hK; clear hK K
      refine L_dec (j < n) (by simp) (fun hjn => ?_) (fun hjn => L_exit ?_)
      · have hrd3 := hE3.ld (hld (i + 1 + j) (by omega))
        have hcs := cnt_succ l hlt (j := j) (by omega)
        have hcl := cnt_le l i j
        have hcell := crow_get l (j := j) hlt
        have l2 : ld H3 w i 0 = some (.int .i64 (cnt l i j)) := by rw [ld_row hrow3, hcell]; rfl
        have hst := store_row (P := Try.prog) (u := 3) (p := i) sc3 (x := .int .i64 (cnt l i (j + 1))) (y := .int .i64 (cnt l i j)) rfl hrow3 (by rw [hcell]; rfl)
        rw [crow_set] at hst
        rw [show off + (i + 1 + j) = off + (i + 1) + j by omega] at hrd3
        refine L_block ?_
        refine L_reg [0, 5, 6, 7, 9, 18, 19, 20, 28, 29, 30] (fun K hK => ?_)
        simp [hjn, hrd3]
        apply hK; clear hK K
        refine L_reg [0, 5, 6, 7, 18, 19, 20, 28, 29, 30, 36] (fun K hK => ?_)
        simp
        apply hK; clear hK K
        refine L_dec (l[i + 1 + j] < l[i]) (by simp) (fun hle => ?_) (fun hle => ?_)
        · rw [if_pos hle] at hcs
          rw [hcs, Int.natCast_add, Int.natCast_one] at hst
          refine L_reg [0, 5, 6, 7, 18, 19, 20, 28, 29, 30] (fun K hK => ?_)
          simp [hlt, l2, wrap_i64 (a := (cnt l i j : Int) + 1) (by omega), hst]
          apply hK; clear hK K
          refine L_reg [0, 5, 6, 7, 18, 19, 20, 28, 29, 30] (fun K hK => ?_)
          simp [wrap_i64 (a := (j : Int) + 1) (by omega)]
          apply hK; clear hK K
          exact ⟨n - (j + 1), [.int .i64 (j + 1 : Nat)], by omega, by simp, j + 1, min s3 i, rfl, by omega, rfl, hE3.set _ (by omega), get_set hrow3⟩
        · rw [if_neg hle] at hcs
          refine L_reg [0, 5, 6, 7, 18, 19, 20, 28, 29, 30] (fun K hK => ?_)
          simp [wrap_i64 (a := (j : Int) + 1) (by omega)]
          apply hK; clear hK K
          have : crow l i (j + 1) = crow l i j := by
            unfold crow
            apply List.map_congr_left
            intro q hq
            by_cases he : q = i
            · subst he; simp [hcs]
            · simp [he]
          exact ⟨n - (j + 1), [.int .i64 (j + 1 : Nat)], by omega, by simp, j + 1, s3, rfl, by omega, rfl, hE3, by rw [this]; exact hrow3⟩
      · have : j = l.length - (i + 1) := by omega
        rw [this, crow_next] at hrow3
        refine L_reg [0, 5, 18, 19, 20] (fun K hK => ?_)
        simp [wrap_i64 (a := (i : Int) + 1) (by omega)]
        apply hK; clear hK K
        exact ⟨l.length - (i + 1), [.int .i64 (i + 1 : Nat)], by omega, by simp, i + 1, s3, rfl, by omega, rfl, hE3, hrow3⟩
    · have : i = l.length := by omega
      subst this
      rw [crow_last] at hrow
      refine L_reg [2, 3] (fun K hK => ?_)
      simp
      apply hK; clear hK K
      exact L_ret ⟨.inr rfl, _, rfl, h _ _ (.inr ⟨w, 0, s, Nat.le_refl _, by simp [codeS], hrow⟩) hE⟩
end Go.Proofs.Ytbhdddifpgfemaa
