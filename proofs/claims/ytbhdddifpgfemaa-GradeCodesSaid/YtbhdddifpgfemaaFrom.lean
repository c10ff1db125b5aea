/- The order with a code. -/
import Derived.Test.YtbhdddifpgfemaaCode
namespace Go.Proofs.Ytbhdddifpgfemaa
open Go Go.Proofs.Ytbhdddifpgfemaa.AX

def chkC : List Int → Int
  | x :: l => if x < 0 ∨ (l.length : Int) + 1 ≤ x then 1 else chkC l
  | [] => 0
def codeE (l : List Int) : Int := if l.length = 0 then 4 else if 7 < l.length then 3 else chkC l
def fromS : List Int → List Int → List Int
  | left, x :: c => left[x.toNat]?.getD 0 :: fromS (left.eraseIdx x.toNat) c
  | _, [] => []
def fromR (c : List Int) : List Int := if codeE c = 0 then fromS (iota c.length) c else []

set_option maxRecDepth 100000 in
theorem checkCode_ac (v : AV) (l : List Int) (H : AH) (Q : AV → AH → Prop) (hl : l.length ≤ 1000000) (hv : Ls H v l) (h : Q (.int .i64 (codeE l)) H) : AC Try.prog 92 [v] H Q := by
  obtain ⟨r0, off0, ver0, sz0, full0, hv0, -⟩ := id hv
  refine L_body 29 Try.func92 rfl rfl ?_
  refine L_reg [0] (fun K hK => ?_)
  simp
  apply hK; clear hK K
  refine L_reg [0, 7] (fun K hK => ?_)
  simp [hv0]
  apply hK; clear hK K
  rw [← hv0]
  unfold codeE at h
  refine L_dec ((l.length : Int) = 0) rfl (fun h0 => ?_) (fun h0 => ?_)
  · rw [if_pos (by omega)] at h
    refine L_reg [2] (fun K hK => ?_)
    simp
    apply hK; clear hK K
    exact L_ret ⟨.inr rfl, _, rfl, h⟩
  · rw [if_neg (by omega)] at h
    refine L_reg [0, 10] (fun K hK => ?_)
    simp [hv0]
    apply hK; clear hK K
    rw [← hv0]
    refine L_dec (7 < l.length) (by simp; omega) (fun h7 => ?_) (fun h7 => ?_)
    · rw [if_pos h7] at h
      refine L_reg [2] (fun K hK => ?_)
      simp
      apply hK; clear hK K
      exact L_ret ⟨.inr rfl, _, rfl, h⟩
    · rw [if_neg h7] at h
      obtain ⟨r, off, ver, full, rfl, hld⟩ := Ls.flat hv (by omega)
      clear hv0
      refine L_reg [0, 11, 12, 13] (fun K hK => ?_)
      simp
      apply hK; clear hK K
      refine L_block (L_loopV [13] (fun m vs H' => ∃ i : Nat, m = l.length - i ∧ i ≤ l.length ∧ chkC l = chkC (l.drop i) ∧ vs = [.int .i64 i] ∧ H = H') _ [.int .i64 (0 : Nat)] rfl ⟨0, rfl, by omega, rfl, rfl, rfl⟩ ?_)
      rintro m _ _ ⟨i, rfl, hi, hvs, rfl, rfl⟩
      refine L_reg [0, 11, 12, 13, 14] (fun K hK => ?_)
      simp
      apply hK; clear hK K
      refine L_dec (i < l.length) (by simp) (fun hlt => ?_) (fun hge => L_exit ?_)
      · have hrd := hld i hlt
        rw [List.drop_eq_getElem_cons hlt] at hvs
        simp only [chkC, List.length_drop] at hvs
        generalize l[i] = x at hrd hvs
        refine L_block ?_
        refine L_reg [0, 3, 4, 11, 12, 13] (fun K hK => ?_)
        simp [hlt, hrd]
        apply hK; clear hK K
        by_cases hx0 : x < 0
        · rw [if_pos (.inl hx0)] at hvs
          refine L_reg [0, 11, 12, 13, 27] (fun K hK => ?_)
          simp [hx0, pickV]
          apply hK; clear hK K
          refine L_true (by simp) ?_
          refine L_reg [2] (fun K hK => ?_)
          simp
          apply hK; clear hK K
          exact L_ret ⟨.inr rfl, _, rfl, by simpa [hvs] using h⟩
        · refine L_reg [0, 11, 12, 13, 27] (fun K hK => ?_)
          simp [hx0, pickV, wrap_i64 (a := (l.length : Int) - (i : Int)) (by omega)]
          apply hK; clear hK K
          refine L_dec ((l.length : Int) - (i : Int) ≤ x) (by simp) (fun hxn => ?_) (fun hxn => ?_)
          · rw [if_pos (.inr (by omega))] at hvs
            refine L_reg [2] (fun K hK => ?_)
            simp
            apply hK; clear hK K
            exact L_ret ⟨.inr rfl, _, rfl, by simpa [hvs] using h⟩
          · rw [if_neg (by omega)] at hvs
            refine L_reg [0, 11, 12, 13] (fun K hK => ?_)
            simp [wrap_i64 (a := (i : Int) + 1) (by omega)]
            apply hK; clear hK K
            exact ⟨l.length - (i + 1), [.int .i64 (i + 1 : Nat)], by omega, by simp, i + 1, rfl, by omega, hvs, rfl, rfl⟩
      · have : i = l.length := by omega
        subst this
        rw [List.drop_length] at hvs
        refine L_reg [2] (fun K hK => ?_)
        simp
        apply hK; clear hK K
        exact L_ret ⟨.inr rfl, _, rfl, by simpa [hvs, chkC] using h⟩

def rrow (n i : Nat) : List Int := (List.range n).map fun q => if q < i then (q : Int) else 0
theorem rrow_set {n i : Nat} : ((rrow n i).map (AV.int .i64)).set i (.int .i64 i) = (rrow n (i + 1)).map (.int .i64) := by
  apply List.ext_getElem
  · simp [rrow]
  · intro q h1 h2
    rw [List.getElem_set]
    simp only [rrow, List.getElem_map, List.getElem_range]
    by_cases hq : i = q
    · subst hq; simp
    · rw [if_neg hq]
      by_cases h : q < i
      · rw [if_pos h, if_pos (by omega)]
      · rw [if_neg h, if_neg (by omega)]
set_option maxRecDepth 100000 in
theorem rising_ac (n : Nat) (H : AH) (Q : AV → AH → Prop) (hn : n ≤ 7) (h : ∀ r s H', H.length ≤ r → H'[r]? = some (.row ((iota n).map (.int .i64)) 0 s false) → Ext H H' → Q (.slice (some r) 0 n 0 1 false) H') : AC Try.prog 85 [.int .i64 n] H Q := by
  refine L_body 18 Try.func85 rfl rfl ?_
  refine L_reg [0] (fun K hK => ?_)
  simp
  apply hK; clear hK K
  refine L_reg [3] (fun K hK => ?_)
  simp [make_z elz22 (show n ≤ 16777216 by omega)]
  apply hK; clear hK K
  have hE0 : Ext H (H ++ [AObj.row (List.replicate n (AV.int .i64 0)) 0 0 false]) := .push _ _
  have h1 : (H ++ [AObj.row (List.replicate n (AV.int .i64 0)) 0 0 false])[H.length]? = some (.row ((rrow n 0).map (.int .i64)) 0 0 false) := by
    have : List.replicate n (AV.int .i64 0) = (rrow n 0).map (.int .i64) := by
      apply List.ext_getElem
      · simp [rrow]
      · intro q h1 h2; simp [rrow]
    simp [this]
  generalize H ++ [AObj.row (List.replicate n (AV.int .i64 0)) 0 0 false] = H1 at hE0 h1 ⊢
  generalize hw : H.length = w at h h1 ⊢
  refine L_reg [3, 8, 9] (fun K hK => ?_)
  simp
  apply hK; clear hK K
  refine L_block (L_loopV [9] (fun m vs H' => ∃ (i s : Nat), m = n - i ∧ i ≤ n ∧ vs = [.int .i64 i] ∧ Ext H H' ∧ H'[w]? = some (.row ((rrow n i).map (.int .i64)) 0 s false)) _ [.int .i64 (0 : Nat)] rfl ⟨0, 0, rfl, by omega, rfl, hE0, h1⟩ ?_)
  rintro m _ H2 ⟨i, s, rfl, hi, rfl, hE, hrow⟩
  refine L_reg [3, 8, 9, 10] (fun K hK => ?_)
  simp
  apply hK; clear hK K
  refine L_dec (i < n) (by simp) (fun hlt => ?_) (fun hge => L_exit ?_)
  · have hcell : ((rrow n i).map (AV.int .i64))[i]? = some (.int .i64 0) := by simp [rrow, hlt]
    have hst := store_row (P := Try.prog) (u := 3) (p := i) sc3 (x := .int .i64 i) (y := .int .i64 0) rfl hrow (by rw [hcell]; rfl)
    rw [rrow_set] at hst
    refine L_block ?_
    refine L_reg [3, 4, 8, 9] (fun K hK => ?_)
    simp
    apply hK; clear hK K
    refine L_reg [3, 8, 9] (fun K hK => ?_)
    simp [hlt, hst]
    apply hK; clear hK K
    refine L_reg [3, 8, 9] (fun K hK => ?_)
    simp [wrap_i64 (a := (i : Int) + 1) (by omega)]
    apply hK; clear hK K
    exact ⟨n - (i + 1), [.int .i64 (i + 1 : Nat)], by omega, by simp, i + 1, min s i, rfl, by omega, rfl, hE.set _ (by omega), get_set hrow⟩
  · have : i = n := by omega
    subst this
    have hlast : rrow i i = iota i := by
      apply List.ext_getElem
      · simp [rrow]
      · intro q h1 h2
        simp only [rrow, iota, List.getElem_map, List.getElem_range]
        rw [if_pos (by simpa [rrow] using h1)]
    rw [hlast] at hrow
    refine L_reg [2] (fun K hK => ?_)
    simp
    apply hK; clear hK K
    exact L_ret ⟨.inr rfl, _, rfl, h _ _ _ (Nat.le_refl _) hrow hE⟩

set_option maxRecDepth 100000 in
theorem From_ac (v : AV) (c : List Int) (H : AH) (Q : AV → AH → Prop) (hl : c.length ≤ 1000000) (hv : Ls H v c) (h : ∀ v' H', OwnF H.length H' v' ((fromR c).map (.int .i64)) → Ext H H' → Q (.tuple [v', .int .i64 (codeE c)]) H') : AC Try.prog 39 [v] H Q := by
  obtain ⟨r0, off0, ver0, sz0, full0, hv0, -⟩ := id hv
  refine L_body 41 Try.func39 rfl rfl ?_
  refine L_reg [0] (fun K hK => ?_)
  simp
  apply hK; clear hK K
  refine L_reg [0, 4] (fun K hK => ?_)
  simp [okFn_low]
  refine checkCode_ac v c H _ hl hv ?_
  simp
  apply hK; clear hK K
  refine L_reg [0, 4, 12] (fun K hK => ?_)
  simp
  apply hK; clear hK K
  unfold fromR at h
  refine L_split rfl (fun ht => ?_) (fun hf => ?_)
  · have hne : codeE c ≠ 0 := by simpa using ht
    rw [if_neg hne] at h
    refine L_reg [2, 3] (fun K hK => ?_)
    simp
    apply hK; clear hK K
    exact L_ret ⟨.inr rfl, _, rfl, h _ _ (OwnF.nil _ _) (.refl _)⟩
  · have he : codeE c = 0 := by simpa using hf
    rw [if_pos he] at h
    rw [he] at h
    have hln : 1 ≤ c.length ∧ c.length ≤ 7 ∧ chkC c = 0 := by
      unfold codeE at he
      split at he
      · simp at he
      · split at he
        · simp at he
        · exact ⟨by omega, by omega, he⟩
    obtain ⟨hl1, hl7, hck⟩ := hln
    clear hv0
    obtain ⟨r, off, ver, full, rfl, hld⟩ := Ls.flat hv (by omega)
    obtain ⟨n, hcl⟩ : ∃ n, c.length = n := ⟨_, rfl⟩
    rw [hcl] at h hl1 hl7 ⊢
    refine L_reg [0, 5] (fun K hK => ?_)
    simp [make_z elz22 (show n ≤ 16777216 by omega)]
    apply hK; clear hK K
    have hE0 : Ext H (H ++ [AObj.row (List.replicate n (AV.int .i64 0)) 0 0 false]) := .push _ _
    have h1 : (H ++ [AObj.row (List.replicate n (AV.int .i64 0)) 0 0 false])[H.length]? = some (.row (List.replicate n (AV.int .i64 0)) 0 0 false) := by simp
    generalize H ++ [AObj.row (List.replicate n (AV.int .i64 0)) 0 0 false] = H1 at hE0 h1 ⊢
    generalize hw : H.length = w at h h1 ⊢
    have hwl : w < H1.length := (List.getElem?_eq_some_iff.1 h1).1
    refine L_reg [0, 5, 6] (fun K hK => ?_)
    simp [okFn_low]
    refine rising_ac n H1 _ hl7 (fun q s H2 hq hrq hE2 => ?_)
    simp
    apply hK; clear hK K
    refine L_reg [5, 6, 20, 21, 22] (fun K hK => ?_)
    simp
    apply hK; clear hK K
    refine L_block (L_loopV [6, 22] (fun k vs H' => ∃ (j m : Nat) (left out : List Int) (s s2 : Nat) (tl : List AV), k = m ∧ n = j + m ∧ vs = [.slice (some q) 0 m 0 1 false, .int .i64 j] ∧ left.length = m ∧ out.length = j ∧ out ++ fromS left (c.drop j) = fromS (iota n) c ∧ chkC (c.drop j) = 0 ∧
        H'[q]? = some (.row (left.map (.int .i64) ++ tl) 0 s false) ∧ (∀ x ∈ left.map (.int .i64) ++ tl, x.one = true) ∧ H'[w]? = some (.row (out.map (.int .i64) ++ List.replicate m (AV.int .i64 0)) 0 s2 false) ∧ Ext H H') _ [.slice (some q) 0 n 0 1 false, .int .i64 (0 : Nat)] rfl
      ⟨0, n, iota n, [], s, 0, [], rfl, by omega, rfl, by simp, rfl, by simp, by simpa using hck, by simpa using hrq, by simp [iota, AV.one], by simpa using hE2.row h1, hE0.trans hE2⟩ ?_)
    rintro m _ H3 ⟨j, _, left, out, s3, s4, tl, rfl, hjm, rfl, hll, hol, hD, hC, hr3, hone, hrw, hE3⟩
    refine L_reg [5, 6, 20, 21, 22, 23] (fun K hK => ?_)
    simp
    apply hK; clear hK K
    refine L_dec (j < n) (by simp) (fun hlt => ?_) (fun hge => L_exit ?_)
    · have hjc : j < c.length := by omega
      have hrd := hE3.ld (hld j hjc)
      rw [List.drop_eq_getElem_cons hjc] at hD hC
      simp only [fromS, chkC, List.length_drop] at hD hC
      generalize c[j] = x at hrd hD hC
      by_cases hx : x < 0 ∨ ((c.length - (j + 1) : Nat) : Int) + 1 ≤ x
      · rw [if_pos hx] at hC; simp at hC
      rw [if_neg hx] at hC
      obtain ⟨d, rfl⟩ := Int.eq_ofNat_of_zero_le (show 0 ≤ x by omega)
      rw [Int.toNat_natCast] at hD
      have hdm : d < m := by omega
      have hdl : d < left.length := by omega
      rw [List.getElem?_eq_getElem hdl, Option.getD_some] at hD
      have hld2 : ld H3 q d 0 = some (.int .i64 left[d]) := by
        rw [ld_row hr3, List.getElem?_append_left (by simpa using hdl)]
        simp [hdl]
      generalize left[d] = y at hD hld2
      obtain ⟨m', rfl⟩ : ∃ m', m = m' + 1 := ⟨m - 1, by omega⟩
      have hcell : (out.map (AV.int .i64) ++ List.replicate (m' + 1) (AV.int .i64 0))[j]? = some (.int .i64 0) := by
        rw [List.getElem?_append_right (by simp [hol])]
        simp [hol]
      have hst := store_row (P := Try.prog) (u := 3) (p := j) sc3 (x := .int .i64 y) (y := .int .i64 0) rfl hrw (by rw [hcell]; rfl)
      have hset : (out.map (AV.int .i64) ++ List.replicate (m' + 1) (AV.int .i64 0)).set j (.int .i64 y) = (out ++ [y]).map (.int .i64) ++ List.replicate m' (AV.int .i64 0) := by
        rw [List.set_append_right _ _ (by simp [hol])]
        simp [hol, List.replicate_succ]
      rw [hset] at hst
      have hqw : q ≠ w := by omega
      obtain ⟨H4, hH4⟩ : ∃ H4, H4 = H3.set w (.row ((out ++ [y]).map (.int .i64) ++ List.replicate m' (AV.int .i64 0)) 0 (min s4 j) false) := ⟨_, rfl⟩
      have hr4 : H4[q]? = some (.row (left.map (.int .i64) ++ tl) 0 s3 false) := by rw [hH4, List.getElem?_set]; simp [Ne.symm hqw, hr3]
      have hrw4 : H4[w]? = some (.row ((out ++ [y]).map (.int .i64) ++ List.replicate m' (AV.int .i64 0)) 0 (min s4 j) false) := by rw [hH4]; exact get_set hrw
      have hE4 : Ext H H4 := by rw [hH4]; exact hE3.set _ (by omega)
      rw [← hH4] at hst
      clear hH4
      refine L_block ?_
      refine L_reg [5, 6, 7, 8, 20, 21, 22] (fun K hK => ?_)
      simp [hlt, hrd]
      apply hK; clear hK K
      refine L_reg [5, 6, 8, 20, 21, 22] (fun K hK => ?_)
      simp [hlt, show (d : Int) < (m' : Int) + 1 by omega, hld2, hst]
      apply hK; clear hK K
      refine L_reg [5, 6, 20, 21, 22] (fun K hK => ?_)
      rw [← hll]
      simp [wrap_i64 (a := (d : Int) + 1) (by omega)]
      refine Delete_ac q 0 s3 tl left d H4 _ hdl (by omega) hr4 hone (fun H5 s5 tl5 hr5 hone5 hl5 hk5 => ?_)
      simp
      apply hK; clear hK K
      refine L_reg [5, 6, 20, 21, 22] (fun K hK => ?_)
      simp [wrap_i64 (a := (j : Int) + 1) (by omega)]
      apply hK; clear hK K
      refine ⟨m', [.slice (some q) 0 m' 0 1 false, .int .i64 (j + 1 : Nat)], by omega, by simp [hll], j + 1, m', left.eraseIdx d, out ++ [y], s5, min s4 j, tl5, rfl, by omega, rfl, by rw [List.length_eraseIdx, if_pos hdl]; omega, by simp [hol], ?_, hC, hr5, hone5, ?_, ?_⟩
      · rw [← hD]; simp
      · rw [hk5 w (Ne.symm hqw)]; exact hrw4
      · exact ⟨by have := hE4.1; omega, fun p hp => by rw [hk5 p (by omega)]; exact hE4.2 p hp⟩
    · have hm0 : m = 0 := by omega
      subst hm0
      rw [List.drop_of_length_le (by omega)] at hD
      simp only [fromS, List.append_nil] at hD
      refine L_reg [2, 3] (fun K hK => ?_)
      simp
      apply hK; clear hK K
      refine L_ret ⟨.inr rfl, _, rfl, h _ _ (.inr ⟨w, 0, s4, Nat.le_refl _, ?_, ?_⟩) hE3⟩
      · rw [← hD]; simp [hol]; omega
      · rw [← hD]; simpa using hrw
end Go.Proofs.Ytbhdddifpgfemaa
