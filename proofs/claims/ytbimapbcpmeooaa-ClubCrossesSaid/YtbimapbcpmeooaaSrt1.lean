/- A short list is sorted in its own row. -/
import Derived.Test.YtbimapbcpmeooaaBas
namespace Go.Proofs.Ytbimapbcpmeooaa
open Go Go.Proofs.Ytbimapbcpmeooaa.AX

theorem isNaN_ac (a : Int) (H : AH) (Q : AV → AH → Prop) (h : Q (.bool false) H) : AC Try.prog 98 [.int .i64 a] H Q := by
  refine L_body 6 Try.func98 rfl rfl ?_
  refine L_reg [0] (fun K hK => ?_)
  simp
  apply hK; clear hK K
  refine L_reg [2] (fun K hK => ?_)
  simp
  apply hK; clear hK K
  exact L_ret ⟨.inr rfl, _, rfl, by simpa using h⟩
theorem Less_ac (a b : Int) (H : AH) (Q : AV → AH → Prop) (h : Q (.bool (decide (a < b))) H) : AC Try.prog 124 [.int .i64 a, .int .i64 b] H Q := by
  refine L_body 17 Try.func124 rfl rfl ?_
  refine L_reg [0, 1] (fun K hK => ?_)
  simp
  apply hK; clear hK K
  refine L_reg [4] (fun K hK => ?_)
  simp [okFn_low]
  refine isNaN_ac a _ _ ?_
  simp [pickV]
  apply hK; clear hK K
  exact L_ret ⟨.inr rfl, _, rfl, h⟩
def ordTo (c : List Int) (i j : Nat) : Prop := ∀ p q, p < q → q ≤ i → q ≠ j → c.getD p 0 ≤ c.getD q 0
theorem getD_mid (A B : List Int) (x y : Int) (p : Nat) : (A ++ x :: y :: B).getD p 0 = if p < A.length then A.getD p 0 else if p = A.length then x else if p = A.length + 1 then y else B.getD (p - A.length - 2) 0 := by
  simp only [List.getD_eq_getElem?_getD]
  split
  · rename_i h; rw [List.getElem?_append_left h]
  · rename_i h
    rw [List.getElem?_append_right (by omega)]
    split
    · rename_i h1; simp [h1]
    · split
      · rename_i h1 h2; simp [h2]
      · rename_i h1 h2
        obtain ⟨m, hm⟩ : ∃ m, p - A.length = m + 2 := ⟨p - A.length - 2, by omega⟩
        rw [hm]; simp
theorem ord_step {A B : List Int} {x y : Int} {i : Nat} (h : ordTo (A ++ x :: y :: B) i (A.length + 1)) (hxy : y < x) : ordTo (A ++ y :: x :: B) i A.length := by
  have e1 : ∀ p, p ≠ A.length → p ≠ A.length + 1 → (A ++ y :: x :: B).getD p 0 = (A ++ x :: y :: B).getD p 0 := by
    intro p h1 h2
    rw [getD_mid, getD_mid, if_neg h1, if_neg h2, if_neg h1, if_neg h2]
  have a1 : (A ++ y :: x :: B).getD A.length 0 = y := by simp
  have a2 : (A ++ y :: x :: B).getD (A.length + 1) 0 = x := by rw [getD_mid, if_neg (by omega), if_neg (by omega), if_pos rfl]
  have b1 : (A ++ x :: y :: B).getD A.length 0 = x := by simp
  have b2 : (A ++ x :: y :: B).getD (A.length + 1) 0 = y := by rw [getD_mid, if_neg (by omega), if_neg (by omega), if_pos rfl]
  intro p q hpq hq hqj
  by_cases hq1 : q = A.length + 1
  · subst hq1
    rw [a2]
    by_cases hp1 : p = A.length
    · subst hp1; rw [a1]; omega
    · rw [e1 p hp1 (by omega)]
      have := h p A.length (by omega) (by omega) (by omega)
      rw [b1] at this; exact this
  · rw [e1 q hqj hq1]
    by_cases hp1 : p = A.length
    · subst hp1; rw [a1]
      have := h (A.length + 1) q (by omega) hq hq1
      rw [b2] at this; exact this
    · by_cases hp2 : p = A.length + 1
      · subst hp2; rw [a2]
        have := h A.length q (by omega) hq hq1
        rw [b1] at this; exact this
      · rw [e1 p hp1 hp2]
        exact h p q hpq hq hq1
theorem swap_row {H : AH} {r ver st : Nat} {A B : List Int} {x y : Int} (hr : H[r]? = some (.row ((A ++ x :: y :: B).map (.int .i64)) ver st false)) :
    ∃ H1 H2 s, storeV Try.prog 3 H (.ptr r (A.length + 1) ver) (.int .i64 x) = some (none, H1) ∧ storeV Try.prog 3 H1 (.ptr r A.length ver) (.int .i64 y) = some (none, H2) ∧ H2[r]? = some (.row ((A ++ y :: x :: B).map (.int .i64)) ver s false) ∧ KeepX r H H2 := by
  have h1 := store_row (P := Try.prog) (u := 3) (p := A.length + 1) sc3 (x := .int .i64 x) (y := .int .i64 y) rfl hr (by simp)
  have e1 : ((A ++ x :: y :: B).map (AV.int .i64)).set (A.length + 1) (.int .i64 x) = (A ++ x :: x :: B).map (.int .i64) := by
    simp [List.set_append_right]
  rw [e1] at h1
  have hr1 := get_set (o' := .row ((A ++ x :: x :: B).map (.int .i64)) ver (min st (A.length + 1)) false) hr
  have h2 := store_row (P := Try.prog) (u := 3) (p := A.length) sc3 (x := .int .i64 y) (y := .int .i64 x) rfl hr1 (by simp)
  have e2 : ((A ++ x :: x :: B).map (AV.int .i64)).set A.length (.int .i64 y) = (A ++ y :: x :: B).map (.int .i64) := by
    simp [List.set_append_right]
  rw [e2] at h2
  exact ⟨_, _, _, h1, h2, get_set hr1, ((KeepX.refl r H).set _).set _⟩
theorem split_at {c : List Int} {j : Nat} (h : j + 1 < c.length) : ∃ A x y B, c = A ++ x :: y :: B ∧ A.length = j := by
  refine ⟨c.take j, c[j], c[j + 1], c.drop (j + 2), ?_, by simp; omega⟩
  rw [← List.drop_eq_getElem_cons h, ← List.drop_eq_getElem_cons (by omega), List.take_append_drop]
set_option maxRecDepth 100000 in
theorem insertion_ac (r ver st : Nat) (l : List Int) (H : AH) (Q : AV → AH → Prop) (hr : H[r]? = some (.row (l.map (.int .i64)) ver st false)) (hl : l.length ≤ 1000000)
    (h : ∀ (H' : AH) (m : List Int) (s : Nat), m.Perm l → m.Pairwise (· ≤ ·) → H'[r]? = some (.row (m.map (.int .i64)) ver s false) → KeepX r H H' → Q (.tuple []) H') : AC Try.prog 118 [.slice (some r) 0 l.length ver 1 false, .int .i64 0, .int .i64 l.length] H Q := by
  refine L_body 49 Try.func118 rfl rfl ?_
  refine L_reg [0, 1, 2, 6] (fun K hK => ?_)
  simp [wrap_i64 (a := 1) (by omega)]
  apply hK; clear hK K
  refine L_block (L_loopV [6] (fun k vs H' => ∃ (i : Nat) (c : List Int) (s : Nat), k = l.length - i ∧ 1 ≤ i ∧ i ≤ max 1 l.length ∧ c.Perm l ∧ (∀ p q, p < q → q < i → c.getD p 0 ≤ c.getD q 0) ∧ vs = [.int .i64 i] ∧ H'[r]? = some (.row (c.map (.int .i64)) ver s false) ∧ KeepX r H H') _ [.int .i64 (1 : Nat)] rfl ⟨1, l, st, rfl, by omega, by omega, .refl l, fun p q h1 h2 => by omega, rfl, hr, .refl r H⟩ ?_)
  rintro k _ H1 ⟨i, c, s, rfl, hi1, hi2, hp, ho, rfl, hrow, hK⟩
  refine L_reg [0, 1, 2, 6, 12] (fun K hK => ?_)
  simp
  apply hK; clear hK K
  refine L_dec (i < l.length) (by simp) (fun hlt => ?_) (fun hge => L_exit ?_)
  · refine L_block ?_
    refine L_reg [0, 1, 2, 6, 7] (fun K hK => ?_)
    simp
    apply hK; clear hK K
    refine L_block (L_loopV [7] (fun k vs H' => ∃ (j : Nat) (c : List Int) (s : Nat), k = j ∧ j ≤ i ∧ c.Perm l ∧ ordTo c i j ∧ vs = [.int .i64 j] ∧ H'[r]? = some (.row (c.map (.int .i64)) ver s false) ∧ KeepX r H H') _ [.int .i64 i] rfl ⟨i, c, s, rfl, by omega, hp, fun p q h1 h2 h3 => ho p q h1 (by omega), rfl, hrow, hK⟩ ?_)
    clear hp ho hrow hK c s H1
    rintro k _ H1 ⟨j, c, s, rfl, hj, hp, ho, rfl, hrow, hK⟩
    have hcl := hp.length_eq
    cases k with
    | zero =>
      refine L_regT mixed [0, 1, 2, 6, 7, 30] (by kernel_rfl) (fun K hK => ?_)
      simp [pickV]
      apply hK; clear hK K
      refine L_false (by simp) (L_exit ?_)
      refine L_reg [0, 1, 2, 6] (fun K hK => ?_)
      simp [wrap_i64 (a := (i : Int) + 1) (by omega)]
      apply hK; clear hK K
      exact ⟨l.length - (i + 1), [.int .i64 (i + 1 : Nat)], by omega, by simp, i + 1, c, s, rfl, by omega, by omega, hp, fun p q h1 h2 => ho p q h1 (by omega) (by omega), rfl, hrow, hK⟩
    | succ j =>
      obtain ⟨A, x, y, B, rfl, hA⟩ := split_at (c := c) (j := j) (by omega)
      subst hA
      have hx : ld H1 r A.length ver = some (.int .i64 x) := by rw [ld_row hrow]; simp
      have hy : ld H1 r (A.length + 1) ver = some (.int .i64 y) := by rw [ld_row hrow]; simp
      have hw : IntKind.i64.wrap (A.length : Int) = (A.length : Int) := wrap_i64 (by omega)
      have hi1' : ((A.length : Int) + 1).toNat = A.length + 1 := by omega
      have g1 : (0 : Int) ≤ (A.length : Int) + 1 := by omega
      have g2 : (A.length : Int) + 1 < (l.length : Int) := by omega
      have g3 : A.length < l.length := by omega
      refine L_regT mixed [0, 1, 2, 6, 7, 30] (by kernel_rfl) (fun K hK => ?_)
      simp [okFn_low, hw, hi1', g1, g2, g3, hx, hy, show (0 : Int) < (A.length : Int) + 1 by omega]
      refine exC_mk (fun Q hQ => Less_ac y x H1 Q hQ) ?_
      simp [pickV]
      apply hK; clear hK K
      refine L_dec (y < x) (by simp) (fun hyx => ?_) (fun hyx => L_exit ?_)
      · obtain ⟨H2, H3, s3, e1, e2, e3, e4⟩ := swap_row hrow
        refine L_block ?_
        refine L_regT mixed [0, 1, 2, 6, 7] (by kernel_rfl) (fun K hK => ?_)
        simp [hw, hi1', g1, g2, g3, hx, hy, e1, e2]
        apply hK; clear hK K
        refine L_reg [0, 1, 2, 6, 7] (fun K hK => ?_)
        simp [hw]
        apply hK; clear hK K
        refine ⟨A.length, [.int .i64 (A.length : Nat)], by omega, by simp, A.length, A ++ y :: x :: B, s3, rfl, by omega, ?_, ord_step ho hyx, rfl, e3, ?_⟩
        · exact (List.Perm.append_left A (List.Perm.swap x y B)).trans hp
        · exact ⟨Nat.le_trans hK.1 e4.1, fun j h1 h2 => by rw [e4.2 j h1 (by have := hK.1; omega), hK.2 j h1 h2]⟩
      · refine L_reg [0, 1, 2, 6] (fun K hK => ?_)
        simp [wrap_i64 (a := (i : Int) + 1) (by omega)]
        apply hK; clear hK K
        refine ⟨l.length - (i + 1), [.int .i64 (i + 1 : Nat)], by omega, by simp, i + 1, _, s, rfl, by omega, by omega, hp, fun p q h1 h2 => ?_, rfl, hrow, hK⟩
        by_cases hq : q = A.length + 1
        · subst hq
          by_cases hpa : p = A.length
          · subst hpa; rw [getD_mid, getD_mid, if_neg (by omega), if_pos rfl, if_neg (by omega), if_neg (by omega), if_pos rfl]; omega
          · have h3 := ho p A.length (by omega) (by omega) (by omega)
            have e1 : (A ++ x :: y :: B).getD A.length 0 = x := by simp
            have e2 : (A ++ x :: y :: B).getD (A.length + 1) 0 = y := by rw [getD_mid, if_neg (by omega), if_neg (by omega), if_pos rfl]
            rw [e1] at h3; rw [e2]; omega
        · exact ho p q h1 (by omega) hq
  · have hc := hp.length_eq
    refine ⟨.inl rfl, _, rfl, h H1 c s hp ?_ hrow hK⟩
    rw [List.pairwise_iff_getElem]
    intro p q h1 h2 h3
    have := ho p q h3 (by omega)
    simpa [List.getD_eq_getElem?_getD, h1, h2] using this
end Go.Proofs.Ytbimapbcpmeooaa
