/- The reference's keys, plans, comparisons and thin plans. -/
import Derived.Test.YtcidcihpkdoejaaRef2
namespace Go.Proofs.Ytcidcihpkdoejaa.Bo
open Go Go.Proofs.Ytcidcihpkdoejaa Go.Proofs.Ytcidcihpkdoejaa.AX
set_option maxRecDepth 100000
/-- A list in a struct's second cell. -/
theorem st_f1 {H : AH} {q k : Nat} {n : Int} {v v' : AV} (hr : H[q]? = some (.row [.int .i64 n, v] 0 k false)) (hv : known (some v) = some v) (ho : v'.one = true) : storeV Try.prog 22 H (.ptr q 1 0) v' = some (none, H.set q (.row [.int .i64 n, v'] 0 (min k 1) false)) := by
  have := store_row (P := Try.prog) (u := 22) (p := 1) sc22 (x := v') (y := v) ho hr (by simpa using hv)
  simpa using this
theorem ld_k1 {H : AH} {q k : Nat} {n : Int} {v : AV} {ro : Bool} (hr : H[q]? = some (.row [.int .i64 n, v] 0 k ro)) (hv : known (some v) = some v) : ld H q 1 0 = some v := ld_c1 hr hv
theorem bd41z : aBuilt Try.prog 41 [] = some [.int .i64 0, .slice none 0 0 0 1 false] := by kernel_rfl
theorem bd41n (n : Int) : aBuilt Try.prog 41 [(0, .int .i64 n)] = some [.int .i64 n, .slice none 0 0 0 1 false] := by kernel_rfl
theorem bd27z : aBuilt Try.prog 27 [] = some [.int .i64 0, .slice none 0 0 0 1 false] := by kernel_rfl
theorem bd27n (n : Int) : aBuilt Try.prog 27 [(0, .int .i64 n)] = some [.int .i64 n, .slice none 0 0 0 1 false] := by kernel_rfl
theorem FitsR_q (n n' : Int) (l l' : List Int) (s s' : AV) (hlen : l.length ≤ 1000000) (hlen' : l'.length ≤ 1000000) (H : AH) (hs : Ls H s l) (hs' : Ls H s' l') (Q : AV → AH → Prop) (h0 : Q (.tuple [.int .i64 (fitsG n l n' l' : Nat), .int .i64 (fitsE n l n' l')]) H) : AC Try.prog 38 [cA n s, cA n' s'] H Q := by
  refine AC.quiet (belB_ie _ _ _ _ _) (fun Q h => ?_) Q h0
  clear h0
  refine L_body 43 Try.func38 rfl rfl ?_
  have hk := ls_known hs
  have hk' := ls_known hs'
  refine L_reg [2, 3] (fun K hK => ?_)
  simp [cA, AV.isU, acells]
  apply hK; clear hK K
  have h1 : (H ++ [AObj.row [.int .i64 n, s] 0 0 false, AObj.row [.int .i64 n', s'] 0 0 false])[H.length]? = some (.row [.int .i64 n, s] 0 0 false) := by simp
  have h2 : (H ++ [AObj.row [.int .i64 n, s] 0 0 false, AObj.row [.int .i64 n', s'] 0 0 false])[H.length + 1]? = some (.row [.int .i64 n', s'] 0 0 false) := by simp
  have hE : Ext H (H ++ [AObj.row [.int .i64 n, s] 0 0 false, AObj.row [.int .i64 n', s'] 0 0 false]) := .push _ _
  generalize H ++ [AObj.row [.int .i64 n, s] 0 0 false, AObj.row [.int .i64 n', s'] 0 0 false] = H1 at h1 h2 hE ⊢
  have a1 := ldn_c h1 hk
  have a2 := ldn_c h2 hk'
  have c1 := ld_c0 h1
  have c2 := ld_c0 h2
  have s1 := hs.ext hE
  have s2 := hs'.ext hE
  refine L_reg [2, 3, 6] (fun K hK => ?_)
  simp [okFn_low, a1]
  refine CheckR_q n l s hlen _ s1 _ ?_
  simp
  apply hK; clear hK K
  refine L_reg [2, 3, 6, 11] (fun K hK => ?_)
  simp
  apply hK; clear hK K
  unfold fitsE fitsG at h
  by_cases hc : chk n l = 0
  case neg =>
    rw [if_pos hc, if_pos hc] at h
    have hcb : (chk n l == 0) = false := by simpa using hc
    refine L_false (by simp [hc]) ?_
    refine L_reg [2, 3, 6, 22] (fun K hK => ?_)
    simp [hcb, pickV]
    apply hK; clear hK K
    refine L_false rfl ?_
    refine L_reg [2, 3, 6, 24] (fun K hK => ?_)
    simp
    apply hK; clear hK K
    refine L_true (by simp [hc]) ?_
    refine L_reg [4, 5] (fun K hK => ?_)
    simp
    apply hK; clear hK K
    exact L_ret ⟨.inr rfl, _, rfl, h _ hE⟩
  simp only [hc, ne_eq, not_true_eq_false, if_false] at h
  refine L_true (by simp [hc]) ?_
  refine L_reg [2, 3, 6] (fun K hK => ?_)
  simp [okFn_low, a2]
  refine CheckP_q n' l' s' hlen' _ s2 _ ?_
  simp
  apply hK; clear hK K
  by_cases hc' : chk n' l' = 0
  case neg =>
    rw [if_pos hc', if_pos hc'] at h
    have hcb : (chk n' l' == 0) = false := by simpa using hc'
    refine L_reg [2, 3, 6, 22] (fun K hK => ?_)
    simp [hcb, pickV]
    apply hK; clear hK K
    refine L_false rfl ?_
    refine L_reg [2, 3, 6, 24] (fun K hK => ?_)
    simp
    apply hK; clear hK K
    refine L_true (by simp [hc']) ?_
    refine L_reg [4, 5] (fun K hK => ?_)
    simp
    apply hK; clear hK K
    exact L_ret ⟨.inr rfl, _, rfl, h _ hE⟩
  simp only [hc', not_true_eq_false, if_false] at h
  refine L_reg [2, 3, 6, 22] (fun K hK => ?_)
  simp [hc', c1, c2, pickV]
  apply hK; clear hK K
  by_cases hnn : n = n'
  case neg =>
    rw [if_pos hnn, if_pos hnn] at h
    refine L_true (by simp [hnn]) ?_
    refine L_reg [2, 3, 6] (fun K hK => ?_)
    simp
    apply hK; clear hK K
    refine L_reg [2, 3, 6, 24] (fun K hK => ?_)
    simp
    apply hK; clear hK K
    refine L_true rfl ?_
    refine L_reg [4, 5] (fun K hK => ?_)
    simp
    apply hK; clear hK K
    exact L_ret ⟨.inr rfl, _, rfl, h _ hE⟩
  subst hnn
  simp only [not_true_eq_false, if_false] at h
  refine L_false (by simp) ?_
  refine L_reg [2, 3, 6, 24] (fun K hK => ?_)
  simp
  apply hK; clear hK K
  refine L_false rfl ?_
  obtain ⟨m, k, rfl, rfl, hr⟩ := chk_ok hc
  obtain ⟨m', k', hm, rfl, hr'⟩ := chk_ok hc'
  obtain rfl : m = m' := by omega
  rw [il_nat, il_nat, Int.toNat_natCast] at h
  have h64 := pw64 hr.n6
  have hp := pw m
  refine L_reg [2, 3, 7] (fun K hK => ?_)
  simp
  apply hK; clear hK K
  have hshl : ∀ tt ll, binV Try.prog .shl tt ll (.int .i64 1) (.int .i64 (m : Int)) = some (.int .i64 ((2 ^ m : Nat) : Int)) := fun _ _ => n_shl m hr.n6
  obtain ⟨N, hN⟩ : ∃ N, 2 ^ m = N := ⟨_, rfl⟩
  rw [hN] at h h64 hp hshl
  have hp1 := (List.getElem?_eq_some_iff.1 h1).1
  have hp2 := (List.getElem?_eq_some_iff.1 h2).1
  clear a1 a2 c1 c2
  refine L_block (L_loopV [7] (fun q vs H' => ∃ i : Nat, q = N - i ∧ i ≤ N ∧ vs = [.int .i64 i] ∧ Ext H1 H' ∧ ∀ j, j < i → dfS k k' j = false) _ [.int .i64 (0 : Nat)] rfl ⟨0, rfl, by omega, rfl, .refl _, fun j hj => by omega⟩ ?_)
  rintro q _ H2 ⟨i, rfl, hi, rfl, hE2, hb⟩
  have h3 : H2[H.length]? = some (.row [.int .i64 m, s] 0 0 false) := by rw [hE2.2 _ hp1]; exact h1
  have h4 : H2[H.length + 1]? = some (.row [.int .i64 m, s'] 0 0 false) := by rw [hE2.2 _ hp2]; exact h2
  have a1 := ldn_c h3 hk
  have a2 := ldn_c h4 hk'
  have c1 := ld_c0 h3
  have t1 := s1.ext hE2
  have t2 := s2.ext hE2
  refine L_reg [2, 3, 7, 30] (fun K hK => ?_)
  simp [c1, hshl]
  apply hK; clear hK K
  refine L_dec (i < N) (by simp) (fun hlt => ?_) (fun hge => L_exit ?_)
  · refine L_block ?_
    have e0 : (((lackS 0 k' i).length : Int) == 0) = meets k' i := by
      rw [Bool.eq_iff_iff, beq_iff_eq, ← lack_nil k' 0 i, ← List.length_eq_zero_iff]; omega
    have hch := chE H2 (il (lackS 0 k' i))
    have hco := chO H2 (il (lackS 0 k' i))
    have hln := ownF_ln hco
    refine L_regZ mixed [] [0, 0, 0, 1] [] [2, 3, 7, 41] (by kernel_rfl) (fun K hK => ?_)
    simp [okFn_low, a1]
    refine exX_mk (fun Q hQ => mayR_q hr i (by omega) s _ t1 Q hQ) (.refl _) ?_
    simp [okFn_low, a2]
    refine exC_mk (fun Q hQ => AC.tidyN (fun Q h => lacksR_n hr' i (by omega) s' _ t2 Q h) Q hQ) ?_
    simp [hln, il_len, e0, b_neqB Try.underlying4]
    apply hK; clear hK K
    have hE3 := hE2.trans hch
    cases hd : dfS k k' i with
    | true =>
      obtain ⟨f1, f2⟩ := fit_hit hlt hd hb
      rw [f1, f2] at h
      refine L_true (by simpa [dfS] using hd) ?_
      refine L_reg [4, 5] (fun K hK => ?_)
      simp
      apply hK; clear hK K
      exact L_ret ⟨.inr rfl, _, rfl, h _ (hE.trans hE3)⟩
    | false =>
      refine L_false (by simpa [dfS] using hd) ?_
      refine L_reg [2, 3, 7] (fun K hK => ?_)
      simp [wrap_i64 (a := (i : Int) + 1) (by omega)]
      apply hK; clear hK K
      refine ⟨N - (i + 1), [.int .i64 (i + 1 : Nat)], by omega, by simp, i + 1, rfl, by omega, rfl, hE3, fun j hj => ?_⟩
      by_cases e : j = i
      · rw [e]; exact hd
      · exact hb j (by omega)
  · have e : N = i := by omega
    subst e
    obtain ⟨f1, f2⟩ := fit_none hb
    rw [f1, f2] at h
    refine L_reg [4, 5] (fun K hK => ?_)
    simp
    apply hK; clear hK K
    exact L_ret ⟨.inr rfl, _, rfl, h _ (hE.trans hE2)⟩
end Go.Proofs.Ytcidcihpkdoejaa.Bo
