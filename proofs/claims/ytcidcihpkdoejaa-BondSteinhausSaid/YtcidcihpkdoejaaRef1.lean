/- The reference: checks, who may open, which locks a group lacks. -/
import Derived.Test.YtcidcihpkdoejaaSeal
namespace Go.Proofs.Ytcidcihpkdoejaa.Bo
open Go Go.Proofs.Ytcidcihpkdoejaa Go.Proofs.Ytcidcihpkdoejaa.AX
set_option maxRecDepth 100000
theorem in_q (x lo hi : Int) (H : AH) (Q : AV → AH → Prop) (h : Q (.bool (decide (lo ≤ x ∧ x ≤ hi))) H) : AC Try.prog 66 [.int .i64 x, .int .i64 lo, .int .i64 hi] H Q := by
  refine L_body 15 Try.func66 rfl rfl ?_
  refine L_reg [0, 1, 2] (fun K hK => ?_)
  simp
  apply hK; clear hK K
  refine L_reg [6] (fun K hK => ?_)
  suffices hk : K [(6, .bool (decide (lo ≤ x ∧ x ≤ hi)))] H by
    by_cases h1 : lo ≤ x
    · simp [h1, pickV]
      simpa [h1] using hk
    · simp [h1, pickV]
      simpa [h1] using hk
  apply hK; clear hK K
  exact L_ret ⟨.inr rfl, _, rfl, h⟩
theorem lies_q (a b : Nat) (ha : a < 64) (hb : b < 64) (H : AH) (Q : AV → AH → Prop) (h : Q (.bool (sub a b)) H) : AC Try.prog 69 [.int .i64 a, .int .i64 b] H Q := by
  refine L_body 10 Try.func69 rfl rfl ?_
  have hand : ∀ tt ll, binV Try.prog .and tt ll (.int .i64 (a : Int)) (.int .i64 (b : Int)) = some (.int .i64 ((a &&& b : Nat) : Int)) := fun _ _ => n_and a b ha hb
  have e : (((a &&& b : Nat) : Int) == (a : Int)) = sub a b := by
    unfold sub; rw [Bool.eq_iff_iff, beq_iff_eq, beq_iff_eq]; omega
  refine L_reg [0, 1] (fun K hK => ?_)
  simp
  apply hK; clear hK K
  refine L_reg [4] (fun K hK => ?_)
  simp [hand, e]
  apply hK; clear hK K
  exact L_ret ⟨.inr rfl, _, rfl, h⟩
theorem groups_q (n : Int) (l : List Int) (s : AV) (hlen : l.length ≤ 1000000) (H : AH) (hs : Ls H s l) (Q : AV → AH → Prop) (h : Q (.int .i64 (chk n l)) H) : AC Try.prog 74 [.int .i64 n, s] H Q := by
  refine L_body 27 Try.func74 rfl rfl ?_
  have hvl := ls_len hs
  refine L_reg [0, 1] (fun K hK => ?_)
  simp
  apply hK; clear hK K
  refine L_reg [0, 1, 8] (fun K hK => ?_)
  simp [okFn_low]
  refine in_q n 1 6 _ _ ?_
  simp
  apply hK; clear hK K
  by_cases hb : n < 1 ∨ 6 < n
  · rw [chk_big hb] at h
    refine L_true (by simp; omega) ?_
    refine L_reg [4] (fun K hK => ?_)
    simp
    apply hK; clear hK K
    exact L_ret ⟨.inr rfl, _, rfl, h⟩
  refine L_false (by simp; omega) ?_
  obtain ⟨m, rfl⟩ : ∃ m : Nat, n = m := ⟨n.toNat, by omega⟩
  have hm6 : m ≤ 6 := by omega
  refine L_reg [0, 1, 11] (fun K hK => ?_)
  simp [hvl]
  apply hK; clear hK K
  unfold chk at h
  rw [if_neg hb] at h
  by_cases hl : 64 < l.length
  · rw [if_pos hl] at h
    refine L_true (by simp; omega) ?_
    refine L_reg [4] (fun K hK => ?_)
    simp
    apply hK; clear hK K
    exact L_ret ⟨.inr rfl, _, rfl, h⟩
  rw [if_neg hl] at h
  refine L_false (by simp; omega) ?_
  simp only [Int.toNat_natCast] at h
  refine L_reg [0, 1, 5] (fun K hK => ?_)
  simp
  apply hK; clear hK K
  refine L_block (L_loopV [5] (fun q vs H' => ∃ i : Nat, q = l.length - i ∧ i ≤ l.length ∧ vs = [.int .i64 i] ∧ H = H' ∧ (l.drop i).all (fun x => decide (0 ≤ x ∧ x < ((2 ^ m : Nat) : Int))) = l.all (fun x => decide (0 ≤ x ∧ x < ((2 ^ m : Nat) : Int)))) _ [.int .i64 (0 : Nat)] rfl ⟨0, rfl, by omega, rfl, rfl, rfl⟩ ?_)
  rintro q _ _ ⟨i, rfl, hi, rfl, rfl, hc⟩
  refine L_reg [0, 1, 5, 15] (fun K hK => ?_)
  simp [hvl]
  apply hK; clear hK K
  refine L_dec (i < l.length) (by simp) (fun hlt => ?_) (fun hge => L_exit ?_)
  · refine L_block ?_
    obtain ⟨rz, pz, vz, hix, hldz⟩ := ls_ix hs hlt
    rw [List.drop_eq_getElem_cons hlt, List.all_cons] at hc
    generalize l[i] = x at hldz hc
    have hp := pw m
    have h64 := pw64 hm6
    have hshl : ∀ tt ll, binV Try.prog .shl tt ll (.int .i64 1) (.int .i64 (m : Int)) = some (.int .i64 ((2 ^ m : Nat) : Int)) := fun _ _ => n_shl m hm6
    obtain ⟨N, hN⟩ : ∃ N, 2 ^ m = N := ⟨_, rfl⟩
    rw [hN] at hshl hp h64
    have e : (N : Int) - 1 = ((N - 1 : Nat) : Int) := by omega
    refine L_regQ mixed [0, 1, 5, 26] (by kernel_rfl) (fun K hK => ?_)
    simp [okFn_low, hix, hldz, hshl, e, wrap_i64 (a := ((N - 1 : Nat) : Int)) (by omega), okFn_low]
    refine exQ_mk (fun Q hQ => in_q x 0 ((N - 1 : Nat) : Int) _ Q hQ) ?_
    simp
    apply hK; clear hK K
    cases hd : decide (0 ≤ x ∧ x < ((2 ^ m : Nat) : Int)) with
    | false =>
      rw [hd, Bool.false_and] at hc
      rw [if_neg (by rw [← hc]; simp)] at h
      have hd2 := of_decide_eq_false hd
      rw [hN] at hd2
      refine L_true (by simp; omega) ?_
      refine L_reg [4] (fun K hK => ?_)
      simp
      apply hK; clear hK K
      exact L_ret ⟨.inr rfl, _, rfl, h⟩
    | true =>
      rw [hd, Bool.true_and] at hc
      have hd2 := of_decide_eq_true hd
      rw [hN] at hd2
      refine L_false (by simp; omega) ?_
      refine L_reg [0, 1, 5] (fun K hK => ?_)
      simp [wrap_i64 (a := (i : Int) + 1) (by omega)]
      apply hK; clear hK K
      exact ⟨l.length - (i + 1), [.int .i64 (i + 1 : Nat)], by omega, by simp, i + 1, rfl, by omega, rfl, rfl, hc⟩
  · have e : i = l.length := by omega
    subst e
    rw [List.drop_length, List.all_nil] at hc
    rw [if_pos hc.symm] at h
    refine L_reg [4] (fun K hK => ?_)
    simp
    apply hK; clear hK K
    exact L_ret ⟨.inr rfl, _, rfl, h⟩
theorem CheckR_q (n : Int) (l : List Int) (s : AV) (hlen : l.length ≤ 1000000) (H : AH) (hs : Ls H s l) (Q : AV → AH → Prop) (h : Q (.int .i64 (chk n l)) H) : AC Try.prog 24 [cA n s] H Q := by
  refine AC.quiet (belB_int _ _ _ _) (fun Q h => ?_) Q h
  refine L_body 8 Try.func24 rfl rfl ?_
  have hk := ls_known hs
  refine L_reg [1] (fun K hK => ?_)
  simp [cA, AV.isU, acells]
  apply hK; clear hK K
  have h1 : (H ++ [AObj.row [.int .i64 n, s] 0 0 false])[H.length]? = some (.row [.int .i64 n, s] 0 0 false) := by simp
  have hE : Ext H (H ++ [AObj.row [.int .i64 n, s] 0 0 false]) := .push _ _
  generalize H ++ [AObj.row [.int .i64 n, s] 0 0 false] = H1 at h1 hE ⊢
  have c0 := ld_c0 h1
  have c1 := ld_c1 h1 hk
  refine L_reg [2] (fun K hK => ?_)
  simp [okFn_low, c0, c1]
  refine groups_q n l s hlen _ (hs.ext hE) _ ?_
  simp
  apply hK; clear hK K
  exact L_ret ⟨.inr rfl, _, rfl, h _ hE⟩
theorem CheckP_q (n : Int) (l : List Int) (s : AV) (hlen : l.length ≤ 1000000) (H : AH) (hs : Ls H s l) (Q : AV → AH → Prop) (h : Q (.int .i64 (chk n l)) H) : AC Try.prog 34 [cA n s] H Q := by
  refine AC.quiet (belB_int _ _ _ _) (fun Q h => ?_) Q h
  refine L_body 8 Try.func34 rfl rfl ?_
  have hk := ls_known hs
  refine L_reg [1] (fun K hK => ?_)
  simp [cA, AV.isU, acells]
  apply hK; clear hK K
  have h1 : (H ++ [AObj.row [.int .i64 n, s] 0 0 false])[H.length]? = some (.row [.int .i64 n, s] 0 0 false) := by simp
  have hE : Ext H (H ++ [AObj.row [.int .i64 n, s] 0 0 false]) := .push _ _
  generalize H ++ [AObj.row [.int .i64 n, s] 0 0 false] = H1 at h1 hE ⊢
  have c0 := ld_c0 h1
  have c1 := ld_c1 h1 hk
  refine L_reg [2] (fun K hK => ?_)
  simp [okFn_low, c0, c1]
  refine groups_q n l s hlen _ (hs.ext hE) _ ?_
  simp
  apply hK; clear hK K
  exact L_ret ⟨.inr rfl, _, rfl, h _ hE⟩
theorem mayR_q {n : Nat} {l : List Nat} (hr : OkR n l) (g : Nat) (hg : g < 64) (s : AV) (H : AH) (hs : Ls H s (il l)) (Q : AV → AH → Prop) (h : Q (.bool (within l g)) H) : AC Try.prog 67 [cA n s, .int .i64 g] H Q := by
  refine AC.quiet (belB_bool _ _ _) (fun Q h => ?_) Q h
  refine L_body 20 Try.func67 rfl rfl ?_
  have hk := ls_known hs
  have hlen := hr.len
  refine L_reg [1, 2] (fun K hK => ?_)
  simp [cA, AV.isU, acells]
  apply hK; clear hK K
  have h1 : (H ++ [AObj.row [.int .i64 n, s] 0 0 false])[H.length]? = some (.row [.int .i64 n, s] 0 0 false) := by simp
  have hE : Ext H (H ++ [AObj.row [.int .i64 n, s] 0 0 false]) := .push _ _
  generalize H ++ [AObj.row [.int .i64 n, s] 0 0 false] = H1 at h1 hE ⊢
  have c1 := ld_c1 h1 hk
  have hs1 := hs.ext hE
  have hvl := ls_len hs1
  rw [il_len] at hvl
  refine L_reg [1, 2, 5] (fun K hK => ?_)
  simp
  apply hK; clear hK K
  refine L_block (L_loopV [5] (fun q vs H' => ∃ i : Nat, q = l.length - i ∧ i ≤ l.length ∧ vs = [.int .i64 i] ∧ H1 = H' ∧ (l.drop i).any (fun o => sub o g) = within l g) _ [.int .i64 (0 : Nat)] rfl ⟨0, rfl, by omega, rfl, rfl, rfl⟩ ?_)
  rintro q _ _ ⟨i, rfl, hi, rfl, rfl, hc⟩
  refine L_reg [1, 2, 5, 10] (fun K hK => ?_)
  simp [c1, hvl]
  apply hK; clear hK K
  refine L_dec (i < l.length) (by simp) (fun hlt => ?_) (fun hge => L_exit ?_)
  · refine L_block ?_
    obtain ⟨rz, pz, vz, hix, hldz⟩ := il_ix hs1 hlt
    rw [any_cons _ hlt] at hc
    have hx64 := hr.ok64 l[i] (List.getElem_mem hlt)
    generalize l[i] = x at hldz hc hx64
    refine L_reg [1, 2, 5, 19] (fun K hK => ?_)
    simp [okFn_low, c1, hix, hldz]
    refine lies_q x g hx64 hg _ _ ?_
    simp
    apply hK; clear hK K
    cases hs : sub x g with
    | true =>
      rw [hs] at hc
      refine L_true (by simp) ?_
      refine L_reg [4] (fun K hK => ?_)
      simp
      apply hK; clear hK K
      refine L_ret ⟨.inr rfl, _, rfl, ?_⟩
      rw [← hc] at h
      simpa using h _ hE
    | false =>
      rw [hs, Bool.false_or] at hc
      refine L_false (by simp) ?_
      refine L_reg [1, 2, 5] (fun K hK => ?_)
      simp [wrap_i64 (a := (i : Int) + 1) (by omega)]
      apply hK; clear hK K
      exact ⟨l.length - (i + 1), [.int .i64 (i + 1 : Nat)], by omega, by simp, i + 1, rfl, by omega, rfl, rfl, hc⟩
  · have e : i = l.length := by omega
    subst e
    rw [List.drop_length, List.any_nil] at hc
    refine L_reg [4] (fun K hK => ?_)
    simp
    apply hK; clear hK K
    refine L_ret ⟨.inr rfl, _, rfl, ?_⟩
    rw [← hc] at h
    exact h _ hE
theorem lacksR_n {n : Nat} {l : List Nat} (hr : OkR n l) (g : Nat) (hg : g < 64) (s : AV) (H : AH) (hs : Ls H s (il l)) (Q : AV → AH → Prop) (h : ∀ v H', OwnN H.length H' v (il (lackS 0 l g)) → Ext H H' → Q v H') : AC Try.prog 78 [cA n s, .int .i64 g] H Q := by
  refine L_body 27 Try.func78 rfl rfl ?_
  have hk := ls_known hs
  have hlen := hr.len
  refine L_reg [1, 2] (fun K hK => ?_)
  simp [cA, AV.isU, acells]
  apply hK; clear hK K
  have h1 : (H ++ [AObj.row [.int .i64 n, s] 0 0 false])[H.length]? = some (.row [.int .i64 n, s] 0 0 false) := by simp
  have hE : Ext H (H ++ [AObj.row [.int .i64 n, s] 0 0 false]) := .push _ _
  generalize H ++ [AObj.row [.int .i64 n, s] 0 0 false] = HB at h1 hE ⊢
  have hp1 := (List.getElem?_eq_some_iff.1 h1).1
  refine L_reg [1, 2, 5] (fun K hK => ?_)
  simp
  apply hK; clear hK K
  refine L_reg [1, 2, 5, 6] (fun K hK => ?_)
  simp
  apply hK; clear hK K
  refine L_block (L_loopV [5, 6] (fun q vs H' => ∃ (i : Nat) (v : AV), q = l.length - i ∧ i ≤ l.length ∧ vs = [v, .int .i64 i] ∧ Ext HB H' ∧ OwnN HB.length H' v (il (lackS 0 (l.take i) g))) _ [.slice none 0 0 0 1 false, .int .i64 (0 : Nat)] rfl ⟨0, _, rfl, by omega, rfl, .refl _, fun _ => rfl, OwnF.nil _ _⟩ ?_)
  rintro q _ H1 ⟨i, v, rfl, hi, rfl, hE1, ho⟩
  have c1 := ld_c1 (H := H1) (p := H.length) (n := n) (s := s) (k := 0) (ro := false) (by rw [hE1.2 _ hp1]; exact h1) hk
  have hs1 := hs.ext (hE.trans hE1)
  have hvl := ls_len hs1
  rw [il_len] at hvl
  refine L_reg [1, 2, 5, 6, 11] (fun K hK => ?_)
  simp [c1, hvl]
  apply hK; clear hK K
  refine L_dec (i < l.length) (by simp) (fun hlt => ?_) (fun hge => L_exit ?_)
  · refine L_block ?_
    obtain ⟨rz, pz, vz, hix, hldz⟩ := il_ix hs1 hlt
    have hx64 := hr.ok64 l[i] (List.getElem_mem hlt)
    have htk : l.take (i + 1) = l.take i ++ [l[i]] := by rw [List.take_succ_eq_append_getElem hlt]
    have hnx := lack_snoc (l.take i) 0 g l[i]
    rw [← htk] at hnx
    generalize l[i] = x at hldz hx64 hnx
    have han : ∀ tt ll, binV Try.prog .and tt ll (.int .i64 (x : Int)) (.int .i64 (g : Int)) = some (.int .i64 ((x &&& g : Nat) : Int)) := fun _ _ => n_and x g hx64 hg
    refine L_reg [1, 2, 5, 6, 21] (fun K hK => ?_)
    simp [c1, hix, hldz, han]
    apply hK; clear hK K
    have hll := lack_len (l.take i) 0 g
    have hti : (l.take i).length = i := by rw [List.length_take]; omega
    rw [hti] at hnx hll
    by_cases hz : x &&& g = 0
    · refine L_true (by simp [hz]) ?_
      obtain ⟨v', H2, happ, ho2, hE2⟩ := ownF_append (P := Try.prog) (m := 1) (x := .int .i64 i) hE1 el22 el22 ho.2 rfl (by simp [il_len]; omega)
      refine L_reg [1, 2, 5, 6] (fun K hK => ?_)
      simp [happ]
      apply hK; clear hK K
      refine L_reg [1, 2, 5, 6] (fun K hK => ?_)
      simp [wrap_i64 (a := (i : Int) + 1) (by omega)]
      apply hK; clear hK K
      refine ⟨l.length - (i + 1), [v', .int .i64 (i + 1 : Nat)], by omega, by simp, i + 1, v', rfl, by omega, rfl, hE2, ?_⟩
      rw [hnx, if_pos hz]
      exact ⟨fun h0 => by simp [il] at h0, by simpa [il] using ho2⟩
    · refine L_false (by simp [hz]) ?_
      refine L_reg [1, 2, 5, 6] (fun K hK => ?_)
      simp [wrap_i64 (a := (i : Int) + 1) (by omega)]
      apply hK; clear hK K
      refine ⟨l.length - (i + 1), [v, .int .i64 (i + 1 : Nat)], by omega, by simp, i + 1, v, rfl, by omega, rfl, hE1, ?_⟩
      rw [hnx, if_neg hz, List.append_nil]; exact ho
  · have e : i = l.length := by omega
    subst e
    rw [List.take_length] at ho
    refine L_reg [4] (fun K hK => ?_)
    simp
    apply hK; clear hK K
    exact L_ret ⟨.inr rfl, _, rfl, h v _ ⟨ho.1, ho.2.mono hE.1⟩ (hE.trans hE1)⟩
theorem lacksR_ac {n : Nat} {l : List Nat} (hr : OkR n l) (g : Nat) (hg : g < 64) (s : AV) (H : AH) (hs : Ls H s (il l)) (Q : AV → AH → Prop) (h : ∀ v H', OwnF H.length H' v ((il (lackS 0 l g)).map (.int .i64)) → Ext H H' → Q v H') : AC Try.prog 78 [cA n s, .int .i64 g] H Q :=
  lacksR_n hr g hg s H hs Q fun v H' ho hE => h v H' ho.2 hE
end Go.Proofs.Ytcidcihpkdoejaa.Bo
