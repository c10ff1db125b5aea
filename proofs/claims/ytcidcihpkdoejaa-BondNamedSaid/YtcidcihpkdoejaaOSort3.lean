/- Sorting numbers (Sort3). -/
import Derived.Test.YtcidcihpkdoejaaOSort2
namespace Go.Proofs.Ytcidcihpkdoejaa.Ord
open Go Go.Proofs.Ytcidcihpkdoejaa.AX Go.Proofs.Ytcidcihpkdoejaa
variable {sb : Bool} {tl : List AV}

set_option maxRecDepth 100000 in
theorem pivot_ac (D : Int → Prop) (κ : Int → Int) (r ver a l : Nat) (c : List Int) (H : AH) (Q : AV → AH → Prop) (hC : CmpO D κ r H) (hr : Rw tl r ver H c) (hrl : r < H.length) (hD : All D c) (hlen : c.length ≤ 1000000) (hl : 12 < l) (hb : a + l ≤ c.length)
    (h : ∀ (H' : AH) (x : Nat) (hint : Int), a ≤ x ∧ x < a + l → KeepX r H H' → Rw tl r ver H' c → Q (.tuple [.int .i64 x, .int .i64 hint]) H') : AC Try.prog 96 [SV sb r 0 c.length ver, .int .i64 a, .int .i64 (a + l : Nat)] H Q := by
  refine L_body 57 Try.func96 rfl rfl ?_
  refine L_reg [0, 1, 2] (fun K hK => ?_)
  simp
  apply hK; clear hK K
  have hq : ((l : Int)).tdiv 4 = ((l / 4 : Nat) : Int) := by rw [Int.tdiv_eq_ediv_of_nonneg (by omega)]; rfl
  obtain ⟨q, hq0⟩ : ∃ q, q = l / 4 := ⟨_, rfl⟩
  rw [← hq0] at hq
  obtain ⟨i, hi⟩ : ∃ i : Nat, (a : Int) + q = i := ⟨a + q, by omega⟩
  obtain ⟨j, hj⟩ : ∃ i : Nat, (a : Int) + (q : Int) * 2 = i := ⟨a + q * 2, by omega⟩
  obtain ⟨k, hk⟩ : ∃ i : Nat, (a : Int) + (q : Int) * 3 = i := ⟨a + q * 3, by omega⟩
  refine L_reg [0, 1, 8] (fun K hK => ?_)
  simp [wrap_i64 (a := (l : Int)) (by omega), show ((a : Int) + l - a) = l by omega]
  apply hK; clear hK K
  refine L_reg [0, 1, 8, 9] (fun K hK => ?_)
  simp [alloc_z zt3]
  apply hK; clear hK K
  have hP : Piv tl r ver H.length H c 0 (H ++ [.row [.int .i64 0] 0 0 false]) := ⟨(KeepX.refl r H).ext (.push _ _), hr.ext (.push _ _), Nat.le_refl _, by omega, 0, 0, Nat.le_refl _, by simp⟩
  generalize H ++ [AObj.row [.int .i64 0] 0 0 false] = H0 at hP ⊢
  generalize hsp : H.length = sp at hP ⊢
  refine L_reg [0, 1, 8, 9, 10] (fun K hK => ?_)
  simp [hq, wrap_i64 (a := (q : Int)) (by omega), hi, wrap_i64 (a := (i : Int)) (by omega)]
  apply hK; clear hK K
  refine L_reg [0, 1, 8, 9, 10, 11] (fun K hK => ?_)
  simp [hq, wrap_i64 (a := (q : Int)) (by omega), wrap_i64 (a := (q : Int) * 2) (by omega), hj, wrap_i64 (a := (j : Int)) (by omega)]
  apply hK; clear hK K
  refine L_reg [0, 8, 9, 10, 11, 12] (fun K hK => ?_)
  simp [hq, wrap_i64 (a := (q : Int)) (by omega), wrap_i64 (a := (q : Int) * 3) (by omega), hk, wrap_i64 (a := (k : Int)) (by omega)]
  apply hK; clear hK K
  refine L_reg [0, 8, 9, 10, 11, 12, 32] (fun K hK => ?_)
  simp
  apply hK; clear hK K
  refine L_true (by simp; omega) ?_
  refine L_reg [0, 9, 10, 11, 12, 34] (fun K hK => ?_)
  simp
  apply hK; clear hK K
  refine L_dec (50 ≤ (l : Int)) (by simp) (fun h50 => ?_) (fun h50 => ?_)
  · refine L_reg [0, 9, 10, 11, 12] (fun K hK => ?_)
    simp [okFn_low]
    refine medianAdj_ac D κ r ver sp i 0 c H H0 _ hC hP (by omega) hD hlen (by omega) (by omega) (fun H1 x hx hP => ?_)
    simp
    apply hK; clear hK K
    refine L_reg [0, 9, 10, 11, 12] (fun K hK => ?_)
    simp [okFn_low]
    refine medianAdj_ac D κ r ver sp j _ c H H1 _ hC hP (by omega) hD hlen (by omega) (by omega) (fun H2 y hy hP => ?_)
    simp
    apply hK; clear hK K
    refine L_reg [0, 9, 10, 11, 12] (fun K hK => ?_)
    simp [okFn_low]
    refine medianAdj_ac D κ r ver sp k _ c H H2 _ hC hP (by omega) hD hlen (by omega) (by omega) (fun H3 z hz hP => ?_)
    simp
    apply hK; clear hK K
    refine L_reg [9, 11] (fun K hK => ?_)
    simp [okFn_low]
    refine median_ac D κ r ver sp x y z _ c H H3 _ hC hP (by omega) hD hlen (by omega) (by omega) (by omega) (fun H4 w hw hP => ?_)
    simp
    apply hK; clear hK K
    obtain ⟨s, st, hs, hrow⟩ := hP.cnt
    have e1 : ld H4 sp 0 0 = some (.int .i64 s) := by rw [ld_row hrow]; rfl
    refine L_reg [11, 49] (fun K hK => ?_)
    simp [e1]
    apply hK; clear hK K
    refine L_block ?_
    refine L_reg [11, 49, 51] (fun K hK => ?_)
    simp
    apply hK; clear hK K
    refine L_split rfl (fun _ => ?_) (fun _ => ?_)
    · refine L_reg [6, 7] (fun K hK => ?_)
      simp
      apply hK; clear hK K
      exact L_ret ⟨.inr rfl, _, rfl, h _ w 1 (by omega) hP.keep hP.row⟩
    · refine L_reg [11, 54] (fun K hK => ?_)
      simp
      apply hK; clear hK K
      refine L_split rfl (fun _ => ?_) (fun _ => ?_)
      · refine L_reg [6, 7] (fun K hK => ?_)
        simp
        apply hK; clear hK K
        exact L_ret ⟨.inr rfl, _, rfl, h _ w 2 (by omega) hP.keep hP.row⟩
      · refine L_reg [6, 7] (fun K hK => ?_)
        simp
        apply hK; clear hK K
        exact L_ret ⟨.inr rfl, _, rfl, h _ w 0 (by omega) hP.keep hP.row⟩
  · refine L_reg [9, 11] (fun K hK => ?_)
    simp [okFn_low]
    refine median_ac D κ r ver sp i j k _ c H H0 _ hC hP (by omega) hD hlen (by omega) (by omega) (by omega) (fun H4 w hw hP => ?_)
    simp
    apply hK; clear hK K
    obtain ⟨s, st, hs, hrow⟩ := hP.cnt
    have e1 : ld H4 sp 0 0 = some (.int .i64 s) := by rw [ld_row hrow]; rfl
    refine L_reg [11, 49] (fun K hK => ?_)
    simp [e1]
    apply hK; clear hK K
    refine L_block ?_
    refine L_reg [11, 49, 51] (fun K hK => ?_)
    simp
    apply hK; clear hK K
    refine L_split rfl (fun _ => ?_) (fun _ => ?_)
    · refine L_reg [6, 7] (fun K hK => ?_)
      simp
      apply hK; clear hK K
      exact L_ret ⟨.inr rfl, _, rfl, h _ w 1 (by omega) hP.keep hP.row⟩
    · refine L_reg [11, 54] (fun K hK => ?_)
      simp
      apply hK; clear hK K
      refine L_split rfl (fun _ => ?_) (fun _ => ?_)
      · refine L_reg [6, 7] (fun K hK => ?_)
        simp
        apply hK; clear hK K
        exact L_ret ⟨.inr rfl, _, rfl, h _ w 2 (by omega) hP.keep hP.row⟩
      · refine L_reg [6, 7] (fun K hK => ?_)
        simp
        apply hK; clear hK K
        exact L_ret ⟨.inr rfl, _, rfl, h _ w 0 (by omega) hP.keep hP.row⟩
end Go.Proofs.Ytcidcihpkdoejaa.Ord
