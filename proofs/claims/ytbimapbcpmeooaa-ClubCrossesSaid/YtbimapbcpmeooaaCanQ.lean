/- What stands against counts: the program's way and the reference's. -/
import Derived.Test.YtbimapbcpmeooaaCanP
namespace Go.Proofs.Ytbimapbcpmeooaa.Cl
open Go Go.Proofs.Ytbimapbcpmeooaa Go.Proofs.Ytbimapbcpmeooaa.AX
set_option maxRecDepth 100000
set_option linter.unusedVariables false
theorem perm_il {m : List Int} {c : List Nat} (h : m.Perm (il c)) : ∃ d : List Nat, m = il d ∧ d.Perm c := by
  refine ⟨m.map Int.toNat, ?_, ?_⟩
  · apply List.ext_getElem (by simp [il])
    intro i h1 h2
    have : m[i] ∈ il c := h.mem_iff.1 (List.getElem_mem h1)
    obtain ⟨y, -, e⟩ := List.mem_map.1 this
    simp [il]; omega
  · have := h.map Int.toNat
    have e : (il c).map Int.toNat = c := by simp [il, Function.comp_def]
    rwa [e] at this
theorem up_il {d : List Nat} (h : (il d).Pairwise (· ≤ ·)) : Dsc d.reverse := by
  unfold Dsc
  rw [List.pairwise_reverse]
  unfold il at h
  rw [List.pairwise_map] at h
  exact h.imp fun h => by omega
theorem down_il {d : List Nat} (h : (il d).Pairwise (fun x y => y ≤ x)) : Dsc d := by
  unfold Dsc
  unfold il at h
  rw [List.pairwise_map] at h
  exact h.imp fun h => by omega
theorem il_rev (d : List Nat) : (il d).reverse = il d.reverse := by simp [il]
theorem srt_len (c : List Nat) : (srtD c).length = c.length := (srtD_perm c).length_eq
theorem srt_le {c : List Nat} {n : Nat} (h : ∀ x ∈ c, x ≤ n) : ∀ x ∈ srtD c, x ≤ n := fun x hx => h x ((srtD_perm c).mem_iff.1 hx)
theorem sum_q (c : List Nat) (v : AV) (hb : ∀ x ∈ c, x ≤ 8) (h8 : c.length ≤ 8) (H : AH) (hv : Ls H v (il c)) (Q : AV → AH → Prop) (h : Q (.int .i64 (c.sum : Nat)) H) : AC Try.prog 62 [v] H Q := by
  have hvl := ils_len hv
  refine L_body 18 Try.func62 rfl rfl ?_
  refine L_reg [0] (fun K hK => ?_)
  simp
  apply hK; clear hK K
  refine L_reg [0, 3] (fun K hK => ?_)
  simp
  apply hK; clear hK K
  refine L_reg [0, 3, 4] (fun K hK => ?_)
  simp
  apply hK; clear hK K
  refine L_block (L_loopV [3, 4] (fun q vs H' => ∃ (i : Nat), q = c.length - i ∧ i ≤ c.length ∧ vs = [.int .i64 ((c.take i).sum : Nat), .int .i64 i] ∧ H = H') _ [.int .i64 (0 : Nat), .int .i64 (0 : Nat)] rfl ⟨0, rfl, by omega, rfl, rfl⟩ ?_)
  rintro q _ _ ⟨i, rfl, hi, rfl, rfl⟩
  refine L_reg [0, 3, 4, 8] (fun K hK => ?_)
  simp [hvl]
  apply hK; clear hK K
  have ht := take_le8 hb h8 i
  refine L_dec (i < c.length) (by simp) (fun hlt => ?_) (fun hge => L_exit ?_)
  · refine L_block ?_
    obtain ⟨rz, pz, vz, hix, hldz⟩ := il_ix hv hlt
    have hs := sum_take hlt
    have hx := hb _ (List.getElem_mem hlt)
    generalize c[i] = x at hldz hs hx
    obtain ⟨z, hz⟩ : ∃ z, (c.take i).sum = z := ⟨_, rfl⟩
    rw [hz] at hs ht ⊢
    refine L_reg [0, 3, 4] (fun K hK => ?_)
    simp [hix, hldz, wrap_i64 (a := (z : Int) + (x : Int)) (by omega)]
    apply hK; clear hK K
    refine L_reg [0, 3, 4] (fun K hK => ?_)
    simp [wrap_i64 (a := (i : Int) + 1) (by omega)]
    apply hK; clear hK K
    exact ⟨c.length - (i + 1), [.int .i64 (z + x : Nat), .int .i64 (i + 1 : Nat)], by omega, by simp, i + 1, rfl, by omega, by rw [hs], rfl⟩
  · have e : i = c.length := by omega
    subst e
    rw [List.take_length]
    refine L_reg [2] (fun K hK => ?_)
    simp
    apply hK; clear hK K
    exact L_ret ⟨.inr rfl, _, rfl, h⟩
/-- All places up to i but j are in order, the greatest ones first. -/
def ordD (c : List Int) (i j : Nat) : Prop := ∀ p q, p < q → q ≤ i → q ≠ j → c.getD q 0 ≤ c.getD p 0
theorem ordD_step {A B : List Int} {x y : Int} {i : Nat} (h : ordD (A ++ x :: y :: B) i (A.length + 1)) (hxy : x < y) : ordD (A ++ y :: x :: B) i A.length := by
  have e1 : ∀ p, p ≠ A.length → p ≠ A.length + 1 → (A ++ y :: x :: B).getD p 0 = (A ++ x :: y :: B).getD p 0 := by
    intro p h1 h2
    rw [getD_mid, getD_mid, if_neg h1, if_neg h2, if_neg h1, if_neg h2]
  have a1 : (A ++ y :: x :: B).getD A.length 0 = y := by simp
  have a2 : (A ++ y :: x :: B).getD (A.length + 1) 0 = x := by rw [getD_mid, if_neg (by omega), if_neg (by omega), if_pos rfl]
  have b1 : (A ++ x :: y :: B).getD A.length 0 = x := by simp
  have b2 : (A ++ x :: y :: B).getD (A.length + 1) 0 = y := by rw [getD_mid, if_neg (by omega), if_neg (by omega), if_pos rfl]
  intro p q hpq hq hqj
  by_cases hq1 : q = A.length + 1
  · subst hq1
    rw [a2]
    by_cases hp1 : p = A.length
    · subst hp1; rw [a1]; omega
    · rw [e1 p hp1 (by omega)]
      have := h p A.length (by omega) (by omega) (by omega)
      rw [b1] at this; exact this
  · rw [e1 q hqj hq1]
    by_cases hp1 : p = A.length
    · subst hp1; rw [a1]
      have := h (A.length + 1) q (by omega) hq hq1
      rw [b2] at this; exact this
    · by_cases hp2 : p = A.length + 1
      · subst hp2; rw [a2]
        have := h A.length q (by omega) hq hq1
        rw [b1] at this; exact this
      · rw [e1 p hp1 hp2]
        exact h p q hpq hq hq1
set_option maxHeartbeats 1000000 in
theorem desc_ac (c : List Nat) (v : AV) (h8 : c.length ≤ 1000) (H : AH) (hv : Ls H v (il c)) (Q : AV → AH → Prop) (h : ∀ v' H', OwnF H.length H' v' ((il (srtD c)).map (.int .i64)) → Ext H H' → Q v' H') : AC Try.prog 87 [v] H Q := by
  refine L_body 49 Try.func87 rfl rfl ?_
  refine L_reg [0] (fun K hK => ?_)
  simp
  apply hK; clear hK K
  obtain ⟨w, H1, happ, hO, hE⟩ := copy_append (P := Try.prog) el22 el22 hv (by rw [il_len]; omega)
  refine L_reg [3] (fun K hK => ?_)
  simp [happ]
  apply hK; clear hK K
  refine L_reg [3, 4] (fun K hK => ?_)
  simp
  apply hK; clear hK K
  rcases hO with ⟨h0, rfl⟩ | ⟨r, ver, st, g1, rfl, g3⟩
  · have hc0 : c = [] := by cases c with | nil => rfl | cons a l => simp [il] at h0
    subst hc0
    refine L_block (L_loopV [4] (fun q vs H' => q = 0 ∧ vs = [.int .i64 (0 : Nat)] ∧ H1 = H') _ [.int .i64 (0 : Nat)] rfl ⟨rfl, rfl, rfl⟩ ?_)
    rintro q _ _ ⟨rfl, rfl, rfl⟩
    refine L_reg [3, 4, 12] (fun K hK => ?_)
    simp
    apply hK; clear hK K
    refine L_false (by simp) (L_exit ?_)
    refine L_reg [2] (fun K hK => ?_)
    simp
    apply hK; clear hK K
    exact L_ret ⟨.inr rfl, _, rfl, h _ _ (.inl ⟨rfl, rfl⟩) hE⟩
  rw [List.length_map, il_len] at *
  obtain ⟨n, hn⟩ : ∃ n, c.length = n := ⟨_, rfl⟩
  rw [hn] at h8 ⊢
  refine L_block (L_loopV [4] (fun k vs H' => ∃ (i : Nat) (c2 : List Int) (s : Nat), k = n - i ∧ i ≤ n ∧ c2.Perm (il c) ∧ (∀ p q, p < q → q < i → c2.getD q 0 ≤ c2.getD p 0) ∧ vs = [.int .i64 i] ∧ H'[r]? = some (.row (c2.map (.int .i64)) ver s false) ∧ KeepX r H1 H') _ [.int .i64 (0 : Nat)] rfl ⟨0, il c, st, rfl, by omega, .refl _, fun p q h1 h2 => by omega, rfl, g3, .refl r H1⟩ ?_)
  rintro k _ H2 ⟨i, c2, s, rfl, hi2, hp, ho, rfl, hrow, hK⟩
  refine L_reg [3, 4, 12] (fun K hK => ?_)
  simp
  apply hK; clear hK K
  refine L_dec (i < n) (by simp) (fun hlt => ?_) (fun hge => L_exit ?_)
  · refine L_block ?_
    refine L_reg [3, 4, 5] (fun K hK => ?_)
    simp
    apply hK; clear hK K
    refine L_block (L_loopV [5] (fun k vs H' => ∃ (j : Nat) (c2 : List Int) (s : Nat), k = j ∧ j ≤ i ∧ c2.Perm (il c) ∧ ordD c2 i j ∧ vs = [.int .i64 j] ∧ H'[r]? = some (.row (c2.map (.int .i64)) ver s false) ∧ KeepX r H1 H') _ [.int .i64 i] rfl ⟨i, c2, s, rfl, by omega, hp, fun p q h1 h2 h3 => ho p q h1 (by omega), rfl, hrow, hK⟩ ?_)
    clear hp ho hrow hK c2 s H2
    rintro k _ H2 ⟨j, c2, s, rfl, hj, hp, ho, rfl, hrow, hK⟩
    have hcl := hp.length_eq
    rw [il_len, hn] at hcl
    cases k with
    | zero =>
      refine L_regT mixed [3, 4, 5, 29] (by kernel_rfl) (fun K hK => ?_)
      simp [pickV]
      apply hK; clear hK K
      refine L_false (by simp) (L_exit ?_)
      refine L_reg [3, 4] (fun K hK => ?_)
      simp [wrap_i64 (a := (i : Int) + 1) (by omega)]
      apply hK; clear hK K
      exact ⟨n - (i + 1), [.int .i64 (i + 1 : Nat)], by omega, by simp, i + 1, c2, s, rfl, by omega, hp, fun p q h1 h2 => ho p q h1 (by omega) (by omega), rfl, hrow, hK⟩
    | succ j =>
      obtain ⟨A, x, y, B, rfl, hA⟩ := split_at (c := c2) (j := j) (by omega)
      subst hA
      have hx : ld H2 r A.length ver = some (.int .i64 x) := by rw [ld_row hrow]; simp
      have hy : ld H2 r (A.length + 1) ver = some (.int .i64 y) := by rw [ld_row hrow]; simp
      have hw : IntKind.i64.wrap (A.length : Int) = (A.length : Int) := wrap_i64 (by omega)
      have hi1' : ((A.length : Int) + 1).toNat = A.length + 1 := by omega
      have g1 : (0 : Int) ≤ (A.length : Int) + 1 := by omega
      have g2 : (A.length : Int) + 1 < (n : Int) := by omega
      have g3 : A.length < n := by omega
      refine L_regT mixed [3, 4, 5, 29] (by kernel_rfl) (fun K hK => ?_)
      simp [pickV, hw, hi1', g1, g2, g3, hx, hy, show (0 : Int) < (A.length : Int) + 1 by omega]
      apply hK; clear hK K
      refine L_dec (x < y) (by simp) (fun hyx => ?_) (fun hyx => L_exit ?_)
      · obtain ⟨H3, H4, s3, e1, e2, e3, e4⟩ := swap_row hrow
        refine L_block ?_
        refine L_regT mixed [3, 4, 5] (by kernel_rfl) (fun K hK => ?_)
        simp [hw, hi1', g1, g2, g3, hx, hy, e1, e2]
        apply hK; clear hK K
        refine L_reg [3, 4, 5] (fun K hK => ?_)
        simp [hw]
        apply hK; clear hK K
        refine ⟨A.length, [.int .i64 (A.length : Nat)], by omega, by simp, A.length, A ++ y :: x :: B, s3, rfl, by omega, ?_, ordD_step ho hyx, rfl, e3, ?_⟩
        · exact (List.Perm.append_left A (List.Perm.swap x y B)).trans hp
        · exact ⟨Nat.le_trans hK.1 e4.1, fun j h1 h2 => by rw [e4.2 j h1 (by have := hK.1; omega), hK.2 j h1 h2]⟩
      · refine L_reg [3, 4] (fun K hK => ?_)
        simp [wrap_i64 (a := (i : Int) + 1) (by omega)]
        apply hK; clear hK K
        refine ⟨n - (i + 1), [.int .i64 (i + 1 : Nat)], by omega, by simp, i + 1, _, s, rfl, by omega, hp, fun p q h1 h2 => ?_, rfl, hrow, hK⟩
        by_cases hq : q = A.length + 1
        · subst hq
          by_cases hpa : p = A.length
          · subst hpa; rw [getD_mid, getD_mid, if_neg (by omega), if_neg (by omega), if_pos rfl, if_neg (by omega), if_pos rfl]; omega
          · have h3 := ho p A.length (by omega) (by omega) (by omega)
            have e1 : (A ++ x :: y :: B).getD A.length 0 = x := by simp
            have e2 : (A ++ x :: y :: B).getD (A.length + 1) 0 = y := by rw [getD_mid, if_neg (by omega), if_neg (by omega), if_pos rfl]
            rw [e1] at h3; rw [e2]; omega
        · exact ho p q h1 (by omega) hq
  · have hc := hp.length_eq
    rw [il_len, hn] at hc
    obtain ⟨d, rfl, hpd⟩ := perm_il hp
    have hds : d = srtD c := srtD_of hpd (down_il (by
      rw [List.pairwise_iff_getElem]
      intro p q h1 h2 h3
      have := ho p q h3 (by omega)
      rw [List.getD_eq_getElem?_getD, List.getD_eq_getElem?_getD, List.getElem?_eq_getElem h1, List.getElem?_eq_getElem h2] at this
      simpa using this))
    subst hds
    refine L_reg [2] (fun K hK => ?_)
    simp
    apply hK; clear hK K
    exact L_ret ⟨.inr rfl, _, rfl, h _ _ (.inr ⟨r, ver, s, g1, by simp [il_len, srt_len, hn], hrow⟩) (hK.new hE g1)⟩
end Go.Proofs.Ytbimapbcpmeooaa.Cl
