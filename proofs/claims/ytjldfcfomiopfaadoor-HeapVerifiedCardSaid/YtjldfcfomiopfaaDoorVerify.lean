/- A plan checked. -/
import Derived.Test.YtjldfcfomiopfaaDoorCheck
namespace Go.Proofs.YtjldfcfomiopfaaDoor
open Go Go.Proofs.YtjldfcfomiopfaaDoor.AX

/-- How often each hour was taken. -/
def bz (done : List Int) : List Int := (List.range 24).map fun x : Nat => ((done.count (x : Int) : Nat) : Int)
theorem bz_get (done : List Int) {x : Nat} (hx : x < 24) : (bz done)[x]? = some ((done.count (x : Int) : Nat) : Int) := by
  simp [bz, hx]
theorem bz_set (done : List Int) {x : Nat} (hx : x < 24) : (bz done).set x (((done.count (x : Int) : Nat) : Int) + 1) = bz (done ++ [(x : Int)]) := by
  apply List.ext_getElem?
  intro j
  rcases Nat.lt_or_ge j 24 with hj | hj
  · rw [bz_get _ hj, List.getElem?_set]
    split
    · rename_i e; subst e
      simp [bz, hx, List.count_append]
    · rename_i hne
      rw [bz_get _ hj, List.count_append]
      have : ¬ (x : Int) = (j : Int) := by omega
      simp [this]
  · rw [List.getElem?_eq_none (by simp [bz]; omega), List.getElem?_eq_none (by simp [bz]; omega)]
def verS (k : Int) : List Int → List (Int × Int) → List Int → Int
  | done, h :: l, x :: p => if turnS h.1 h.2 x = true then (if ((done.count x : Nat) : Int) = k then 15 else verS k (done ++ [x]) l p) else 1
  | _, _, _ => 0
def verifyE (l : List (Int × Int)) (k : Int) (p : List Int) : Int := if handsE l k = 0 then (if p.length = l.length then verS k [] l p else 5) else handsE l k
theorem firstE_zero : ∀ {l : List (Int × Int)}, firstE l = 0 → ∀ h ∈ l, 0 ≤ h.1 ∧ h.1 ≤ h.2 ∧ h.2 ≤ 23
  | [], _, h, hm => by cases hm
  | x :: l, h0, h, hm => by
    unfold firstE at h0
    split at h0
    · rename_i hs
      rcases List.mem_cons.1 hm with rfl | hm
      · unfold spanE isHourS at hs
        split at hs
        · rename_i hc
          split at hs
          · cases hs
          · simp at hc; omega
        · cases hs
      · exact firstE_zero h0 h hm
    · contradiction
theorem handsE_zero {l : List (Int × Int)} {k : Int} (h : handsE l k = 0) : l.length ≤ 10 ∧ 1 ≤ k ∧ k ≤ 10 ∧ ∀ h ∈ l, 0 ≤ h.1 ∧ h.1 ≤ h.2 ∧ h.2 ≤ 23 := by
  unfold handsE at h
  split at h
  · rename_i hc
    unfold checkE at hc
    split at hc
    · cases hc
    · split at h
      · cases h
      · exact ⟨by omega, by omega, by omega, firstE_zero hc⟩
  · contradiction
theorem zt89 : zeroT Tryd.prog 89 = some ((bz []).map (.int .i64)) := by kernel_rfl

set_option maxRecDepth 100000 in
theorem verify_ac (v v2 : AV) (l : List (Int × Int)) (k : Int) (p : List Int) (H : AH) (Q : AV → AH → Prop) (_hp : p.length ≤ 1000000) (hv : Hs H v l) (hv2 : Ls H v2 p) (h : ∀ H', Ext H H' → Q (.int .i64 (verifyE l k p)) H') : AC Tryd.prog 21 [v, .int .i64 k, v2] H Q := by
  obtain ⟨r, off, ver, sz, full, rfl, hld⟩ := hv.read
  obtain ⟨r2, off2, ver2, sz2, full2, rfl, hld2⟩ := id hv2
  obtain ⟨I, hI, hz⟩ := zeroT_some zt89
  refine L_body 47 Tryd.func21 rfl rfl ?_
  refine L_reg [0, 1, 2] (fun K hK => ?_)
  simp
  apply hK; clear hK K
  refine L_reg [0, 1, 2, 7] (fun K hK => ?_)
  simp [okFn_low]
  refine checkHands_q _ l k H hv _ ?_
  simp
  apply hK; clear hK K
  refine L_reg [0, 1, 2, 7, 15] (fun K hK => ?_)
  simp
  apply hK; clear hK K
  refine L_split rfl (fun ht => ?_) (fun hf => ?_)
  · have hne : handsE l k ≠ 0 := by simpa using ht
    refine L_reg [6] (fun K hK => ?_)
    simp
    apply hK; clear hK K
    exact L_ret ⟨.inr rfl, _, rfl, by simpa [verifyE, hne] using h _ (.refl _)⟩
  · have he : handsE l k = 0 := by simpa using hf
    obtain ⟨hl10, hk1, hk10, hall⟩ := handsE_zero he
    simp only [verifyE, he, if_true] at h
    refine L_reg [0, 1, 2, 21] (fun K hK => ?_)
    simp
    apply hK; clear hK K
    refine L_split rfl (fun ht => ?_) (fun hf => ?_)
    · have hne : p.length ≠ l.length := by
        intro e; rw [e] at ht; simp at ht
      refine L_reg [6] (fun K hK => ?_)
      simp
      apply hK; clear hK K
      exact L_ret ⟨.inr rfl, _, rfl, by simpa [hne] using h _ (.refl _)⟩
    · have hpl : p.length = l.length := by
        have : ((p.length : Int) != (l.length : Int)) = false := hf
        simp at this; omega
      rw [if_pos hpl] at h
      refine L_reg [0, 1, 2, 8] (fun K hK => ?_)
      simp [hI, hz]
      apply hK; clear hK K
      have hE0 : Ext H (H ++ [AObj.row ((bz []).map (.int .i64)) 0 0 false]) := .push _ _
      have h0 : (H ++ [AObj.row ((bz []).map (AV.int .i64)) 0 0 false])[H.length]? = some (.row ((bz []).map (.int .i64)) 0 0 false) := by simp
      generalize H ++ [AObj.row ((bz []).map (AV.int .i64)) 0 0 false] = H1 at hE0 h0 ⊢
      generalize hw : H.length = w at h0 ⊢
      refine L_reg [0, 1, 8, 22, 23, 24] (fun K hK => ?_)
      simp
      apply hK; clear hK K
      refine L_block (L_loopV [24] (fun m vs H' => ∃ i : Nat, m = p.length - i ∧ i ≤ p.length ∧ verS k [] l p = verS k (p.take i) (l.drop i) (p.drop i) ∧ vs = [.int .i64 i] ∧ Ext H H' ∧ H'[w]? = some (.row ((bz (p.take i)).map (.int .i64)) 0 0 false)) _ [.int .i64 (0 : Nat)] rfl ⟨0, rfl, by omega, rfl, rfl, hE0, h0⟩ ?_)
      rintro m _ H2 ⟨i, rfl, hi, hvs, rfl, hE, hrow⟩
      refine L_reg [0, 1, 8, 22, 23, 24, 25] (fun K hK => ?_)
      simp
      apply hK; clear hK K
      refine L_dec (i < p.length) (by simp) (fun hlt => ?_) (fun hge => L_exit ?_)
      · have hlt' : i < l.length := by omega
        obtain ⟨r', rfl, rfl, hrd⟩ := hld i hlt'
        obtain ⟨r2', rfl, rfl, hrd2⟩ := hld2 i hlt
        have hrd := ldn_ext hE hrd
        have hrd2 := hE.ld hrd2
        have hmem := hall _ (List.getElem_mem hlt')
        have htk : p.take (i + 1) = p.take i ++ [p[i]] := List.take_succ_eq_append_getElem hlt
        rw [List.drop_eq_getElem_cons hlt, List.drop_eq_getElem_cons hlt'] at hvs
        simp only [verS] at hvs
        generalize l[i] = x at hrd hvs hmem
        generalize p[i] = y at hrd2 hvs htk
        obtain ⟨c, d⟩ := x
        refine L_block ?_
        refine L_reg [0, 1, 8, 9, 10, 22, 23, 24] (fun K hK => ?_)
        simp [hlt, hrd2]
        apply hK; clear hK K
        refine L_reg [0, 1, 8, 10, 22, 23, 24, 35] (fun K hK => ?_)
        simp [hlt', hrd, okFn_low]
        refine turnable_q c d y _ _ ?_
        simp
        apply hK; clear hK K
        cases hts : turnS c d y with
        | false =>
          simp only [hts, Bool.false_eq_true, if_false] at hvs
          refine L_true (by simp) ?_
          refine L_reg [6] (fun K hK => ?_)
          simp
          apply hK; clear hK K
          exact L_ret ⟨.inr rfl, _, rfl, by simpa [hvs] using h _ hE⟩
        | true =>
          simp only [hts, if_true] at hvs
          have hy : 0 ≤ y ∧ y ≤ 23 := by
            simp [turnS] at hts
            simp only at hmem
            omega
          obtain ⟨z, rfl⟩ := Int.eq_ofNat_of_zero_le hy.1
          have hz24 : z < 24 := by omega
          have hz24i : (z : Int) < 24 := by omega
          have hcnt : (p.take i).count (z : Int) ≤ i := Nat.le_trans List.count_le_length (by simp; omega)
          have hcell : ((bz (p.take i)).map (AV.int .i64))[z]? = some (.int .i64 ((p.take i).count (z : Int) : Nat)) := by rw [List.getElem?_map, bz_get _ hz24]; rfl
          have l2 : ld H2 w z 0 = some (.int .i64 ((p.take i).count (z : Int) : Nat)) := by rw [ld_row hrow, hcell]; rfl
          have hset : ((bz (p.take i)).map (AV.int .i64)).set z (.int .i64 (((p.take i).count (z : Int) : Nat) + 1)) = (bz (p.take (i + 1))).map (.int .i64) := by
            rw [htk, ← bz_set _ hz24, List.map_set]
          have hst := store_row (P := Tryd.prog) (u := 3) (p := z) sc3 (x := .int .i64 (((p.take i).count (z : Int) : Nat) + 1)) (y := .int .i64 ((p.take i).count (z : Int) : Nat)) rfl hrow (by rw [hcell]; rfl)
          rw [hset, Nat.zero_min] at hst
          generalize (p.take i).count (z : Int) = cn at hcnt hcell l2 hst hvs hset
          refine L_false (by simp) ?_
          refine L_reg [0, 1, 8, 10, 22, 23, 24, 40] (fun K hK => ?_)
          simp [hz24i, l2]
          apply hK; clear hK K
          refine L_dec ((cn : Int) = k) (by simp; rfl) (fun hck => ?_) (fun hck => ?_)
          · rw [if_pos hck] at hvs
            refine L_reg [6] (fun K hK => ?_)
            simp
            apply hK; clear hK K
            exact L_ret ⟨.inr rfl, _, rfl, by simpa [hvs] using h _ hE⟩
          · rw [if_neg hck] at hvs
            refine L_reg [0, 1, 8, 22, 23, 24] (fun K hK => ?_)
            simp [hz24i, l2, wrap_i64 (a := (cn : Int) + 1) (by omega), hst]
            apply hK; clear hK K
            refine L_reg [0, 1, 8, 22, 23, 24] (fun K hK => ?_)
            simp [wrap_i64 (a := (i : Int) + 1) (by omega)]
            apply hK; clear hK K
            exact ⟨p.length - (i + 1), [.int .i64 (i + 1 : Nat)], by omega, by simp, i + 1, rfl, by omega, by rw [hvs, htk], rfl, hE.set _ (by omega), get_set hrow⟩
      · have : i = p.length := by omega
        subst this
        rw [List.drop_length] at hvs
        refine L_reg [6] (fun K hK => ?_)
        simp
        apply hK; clear hK K
        refine L_ret ⟨.inr rfl, _, rfl, ?_⟩
        have : verS k [] l p = 0 := by
          rw [hvs]
          cases l.drop p.length <;> rfl
        simpa [this] using h _ hE
theorem verify_q (v v2 : AV) (l : List (Int × Int)) (k : Int) (p : List Int) (H : AH) (hp : p.length ≤ 1000000) (hv : Hs H v l) (hv2 : Ls H v2 p) (Q : AV → AH → Prop) (h : Q (.int .i64 (verifyE l k p)) H) : AC Tryd.prog 21 [v, .int .i64 k, v2] H Q :=
  AC.quiet (belB_int _ _ _ _) (fun Q h => verify_ac v v2 l k p H Q hp hv hv2 h) Q h
end Go.Proofs.YtjldfcfomiopfaaDoor
