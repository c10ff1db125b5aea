/- Dock's reference: places are turned. -/
import Derived.Test.YtojblooaiojmcaaTurns
namespace Go.Proofs.Ytojblooaiojmcaa
open Go Go.Proofs.Ytojblooaiojmcaa.AX

theorem AX.OwnF.ext {N : Nat} {H H' : AH} {v : AV} {l : List AV} (h : OwnF N H v l) (hE : Ext H H') : OwnF N H' v l := by
  rcases h with h1 | ⟨r, ver, st, h1, h2, h3⟩
  · exact .inl h1
  · exact .inr ⟨r, ver, st, h1, h2, hE.row h3⟩
theorem AX.OwnF.mono {N N' : Nat} {H : AH} {v : AV} {l : List AV} (h : OwnF N H v l) (hN : N' ≤ N) : OwnF N' H v l := by
  rcases h with h1 | ⟨r, ver, st, h1, h2, h3⟩
  · exact .inl h1
  · exact .inr ⟨r, ver, st, by omega, h2, h3⟩

theorem rTurns_ac (n : Int) (v : AV) (l : List Int) (H : AH) (Q : AV → AH → Prop) (hl : l.length ≤ 1048576) (hv : Ls H v l) (h : ∀ v' H', Ls H' v' (turnsS n l) → Ext H H' → Q (.tuple [v', .int .i64 (turnsE n l)]) H') : AC Try.prog 40 [.int .i64 n, v] H Q := by
  have hv0 := hv
  obtain ⟨r, off, ver, sz, full, rfl, hv⟩ := hv
  refine L_body 68 Try.func40 rfl rfl ?_
  refine L_reg [0, 1] (fun K hK => ?_)
  simp
  apply hK; clear hK K
  refine L_reg [0, 1, 13] (fun K hK => ?_)
  simp [okFn_low]
  refine in_ac _ _ _ _ _ ?_
  simp
  apply hK; clear hK K
  rcases okBays_cases n with ⟨h0, hn1, hn8⟩ | ⟨h0, hn⟩
  case inr =>
    refine L_true (by simp; omega) ?_
    refine L_reg [4, 5] (fun K hK => ?_)
    simp
    apply hK; clear hK K
    have e : turnsE n l = 1 := by rw [turnsE, if_pos (by omega)]
    rw [turnsS, e, if_pos (by decide)] at h
    exact L_ret ⟨.inr rfl, _, rfl, h _ _ (.nil _) (.refl _)⟩
  refine L_false (by simp; omega) ?_
  obtain ⟨m, rfl⟩ := Int.eq_ofNat_of_zero_le (show 0 ≤ n by omega)
  have hm : m ≤ 8 := by omega
  refine L_reg [0, 1, 17] (fun K hK => ?_)
  simp
  apply hK; clear hK K
  by_cases hlen : m < l.length
  case pos =>
    refine L_true (by simp; omega) ?_
    refine L_reg [4, 5] (fun K hK => ?_)
    simp
    apply hK; clear hK K
    have e : turnsE m l = 3 := by rw [turnsE, if_neg (by omega), if_pos (by omega)]
    rw [turnsS, e, if_pos (by decide)] at h
    exact L_ret ⟨.inr rfl, _, rfl, h _ _ (.nil _) (.refl _)⟩
  refine L_false (by simp; omega) ?_
  have hE0 : turnsE m l = if okP m l then 0 else 2 := by rw [turnsE, if_neg (by omega), if_neg (by omega)]
  refine L_reg [0, 1, 6] (fun K hK => ?_)
  simp
  apply hK; clear hK K
  refine L_block (L_loopV [6] (fun k vs H' => ∃ i : Nat, k = l.length - i ∧ i ≤ l.length ∧ okP m (l.take i) = true ∧ vs = [.int .i64 i] ∧ H = H') _ [.int .i64 (0 : Nat)] rfl ⟨0, rfl, by omega, rfl, rfl, rfl⟩ ?_)
  rintro k _ _ ⟨i, rfl, hi, hok, rfl, rfl⟩
  refine L_reg [0, 1, 6, 21] (fun K hK => ?_)
  simp
  apply hK; clear hK K
  refine L_dec (i < l.length) (by simp) (fun hlt => ?_) (fun hge => L_exit ?_)
  · obtain ⟨r', rfl, rfl, hld⟩ := hv i hlt
    refine L_block ?_
    have hts := all_take_succ (l := l) (p := fun b => decide (0 ≤ b) && decide (b ≤ (m : Int))) hlt
    have hbad := all_of_bad (l := l) (p := fun b => decide (0 ≤ b) && decide (b ≤ (m : Int))) hlt
    generalize l[i] = x at hts hbad hld
    refine L_reg [0, 1, 6, 30] (fun K hK => ?_)
    simp [okFn_low, hlt, hld]
    refine in_ac _ _ _ _ _ ?_
    simp
    apply hK; clear hK K
    by_cases hx : 0 ≤ x ∧ x ≤ m
    · refine L_false (by simp; omega) ?_
      refine L_reg [0, 1, 6] (fun K hK => ?_)
      simp [wrap_i64 (a := (i : Int) + 1) (by omega)]
      apply hK; clear hK K
      have hok' : okP m (l.take (i + 1)) = true := by
        rw [okP, hts]; simp only [Bool.and_eq_true, decide_eq_true_eq]; exact ⟨hok, hx⟩
      exact ⟨l.length - (i + 1), [.int .i64 (i + 1 : Nat)], by omega, rfl, i + 1, rfl, by omega, hok', rfl, rfl⟩
    · have e : okP m l = false := hbad (by simp; omega)
      rw [e] at hE0
      refine L_true (by simp; omega) ?_
      refine L_reg [4, 5] (fun K hK => ?_)
      simp
      apply hK; clear hK K
      rw [turnsS, hE0, if_pos (by decide)] at h
      exact L_ret ⟨.inr rfl, _, rfl, h _ _ (.nil _) (.refl _)⟩
  · rw [List.take_of_length_le (by omega)] at hok
    rw [hok] at hE0
    simp only [if_true] at hE0
    rw [turnsS, hE0, if_neg (by decide)] at h
    obtain ⟨l', rfl, hw⟩ := okP_nat hok
    rw [natL_of] at h
    simp only [List.length_map, Int.toNat_natCast] at *
    have hlen' : l'.length ≤ m := by omega
    refine L_reg [0, 1, 7] (fun K hK => ?_)
    simp
    apply hK; clear hK K
    refine L_reg [0, 1, 7, 8] (fun K hK => ?_)
    simp
    apply hK; clear hK K
    refine L_block (L_loopV [7, 8] (fun k vs H' => ∃ (b : Nat) (u : AV), k = m + 1 - b ∧ b ≤ m + 1 ∧ vs = [u, .int .i64 b] ∧ Ext H H' ∧ OwnF H.length H' u ((turnsL m l' b).map (.int .i64))) _ [.slice none 0 0 0 1 false, .int .i64 (0 : Nat)] rfl ⟨0, _, rfl, by omega, rfl, .refl _, .nil _ _⟩ ?_)
    rintro k _ H1 ⟨b, u, rfl, hb, rfl, hE, hO⟩
    refine L_reg [0, 1, 7, 8, 33] (fun K hK => ?_)
    simp
    apply hK; clear hK K
    refine L_dec (b ≤ m) (by simp) (fun hlt => ?_) (fun hge => L_exit ?_)
    · have hts := turnsL_succ m l' b
      have htl := turnsL_len m l' b
      refine L_block ?_
      refine L_reg [0, 1, 7, 8, 9] (fun K hK => ?_)
      simp
      apply hK; clear hK K
      refine L_reg [0, 1, 7, 8, 9, 10] (fun K hK => ?_)
      simp
      apply hK; clear hK K
      refine L_block (L_loopV [9, 10] (fun k vs H' => ∃ (i : Nat) (u2 : AV), k = l'.length - i ∧ i ≤ l'.length ∧ vs = [u2, .int .i64 i] ∧ Ext H1 H' ∧ OwnF H1.length H' u2 (((turnL m b (l'.take i)).map Int.ofNat).map (.int .i64))) _ [.slice none 0 0 0 1 false, .int .i64 (0 : Nat)] rfl ⟨0, _, rfl, by omega, rfl, .refl _, .nil _ _⟩ ?_)
      rintro k _ H2 ⟨i, u2, rfl, hi2, rfl, hE2, hO2⟩
      refine L_reg [0, 1, 7, 8, 9, 10, 39] (fun K hK => ?_)
      simp
      apply hK; clear hK K
      refine L_dec (i < l'.length) (by simp) (fun hlt2 => ?_) (fun hge2 => L_exit ?_)
      · obtain ⟨r', rfl, rfl, hld⟩ := hv i hlt2
        have hld' := (hE.trans hE2).ld hld
        simp only [List.getElem_map] at hld'
        have hpn := hw l'[i] (List.getElem_mem hlt2)
        have htk : turnL m b (l'.take (i + 1)) = turnL m b (l'.take i) ++ [(l'[i] + b) % (m + 1)] := by
          rw [List.take_succ_eq_append_getElem hlt2]; simp only [turnL, List.map_append, List.map_cons, List.map_nil]
        have hlen2 : (turnL m b (l'.take i)).length = i := by rw [turnL_length]; simp; omega
        generalize l'[i] = p at hld' hpn htk
        generalize turnL m b (l'.take i) = done at hO2 htk hlen2
        have hrem := rem_nat (p + b) (m + 1)
        simp only [Int.natCast_add, Int.natCast_one] at hrem
        have hne : ((m : Int) + 1) ≠ 0 := by omega
        obtain ⟨v', H', he, hO', hE'⟩ := ownF_append hE2 el22 el22 (x := .int .i64 (((p + b) % (m + 1) : Nat) : Int)) (m := 1) hO2 rfl (by simp; omega)
        obtain ⟨ur, uv, hu⟩ := hO2.len
        refine L_block ?_
        refine L_reg [0, 1, 7, 8, 9, 10] (fun K hK => ?_)
        simp [wrap_i64 (a := (p : Int) + (b : Int)) (by omega), wrap_i64 (a := (m : Int) + 1) (by omega), hne, hrem, hlt2, hld', he, -Int.natCast_emod]
        apply hK; clear hK K
        refine L_reg [0, 1, 7, 8, 9, 10] (fun K hK => ?_)
        simp [wrap_i64 (a := (i : Int) + 1) (by omega)]
        apply hK; clear hK K
        exact ⟨l'.length - (i + 1), [v', .int .i64 (i + 1 : Nat)], by omega, by simp, i + 1, v', rfl, by omega, rfl, hE', by rw [htk]; simpa using hO'⟩
      · have hi' : i = l'.length := by omega
        subst hi'
        rw [List.take_length] at hO2
        have hv2 := hO2.own.ls
        have hEE := hE.trans hE2
        have hOu := hO.ext hE2
        have hcont : ∀ u' H3, Ext H H3 → OwnF H.length H3 u' ((turnsL m l' (b + 1)).map (.int .i64)) → ∃ n' vs', n' < m + 1 - b ∧ ([(0, AV.int .i64 m), (1, .slice r off l'.length ver sz full), (7, u'), (8, .int .i64 ((b : Int) + 1))] : Env) = esets [(0, .int .i64 m), (1, .slice r off l'.length ver sz full), (7, .slice none 0 0 0 1 false), (8, .int .i64 0)] [7, 8] vs' ∧
            ∃ (b : Nat) (u : AV), n' = m + 1 - b ∧ b ≤ m + 1 ∧ vs' = [u, .int .i64 b] ∧ Ext H H3 ∧ OwnF H.length H3 u ((turnsL m l' b).map (.int .i64)) :=
          fun u' H3 h1 h2 => ⟨m + 1 - (b + 1), [u', .int .i64 (b + 1 : Nat)], by omega, by simp, b + 1, u', rfl, by omega, rfl, h1, h2⟩
        by_cases hc : checkS m ((turnL m b l').map Int.ofNat) = 0
        · obtain ⟨m', l2, e1, hm1, hm8, e2, hlen2, hw2⟩ := checked hc
          have e3 : turnL m b l' = l2 := by
            have := congrArg natL e2
            rwa [natL_of, natL_of] at this
          have e4 : m = m' := by omega
          have hgood : servT m l' b = !decide (-1 ∈ parkS m 0 (turnL m b l')) := by rw [servT, hc]; rfl
          refine L_reg [0, 1, 7, 8, 62] (fun K hK => ?_)
          simp [okFn_low]
          refine refCheck_ac m u2 _ _ _ (by simp [turnL_length]; omega) hv2 ?_
          simp [hc, okFn_low]
          refine rserves_ac m u2 _ _ _ hm (by rw [turnL_length]; omega) (by rw [e3, e4]; exact hw2) hv2 (fun H3 hE3 => ?_)
          rw [← hgood]
          simp [pickV]
          apply hK; clear hK K
          have hO3 := hOu.ext hE3
          have hEEE := hEE.trans hE3
          refine L_split rfl (fun hg => ?_) (fun hg => ?_)
          · rw [hg] at hts
            obtain ⟨ur, uv, hu⟩ := hO3.len
            obtain ⟨v', H', he, hO', hE'⟩ := ownF_append hEEE el22 el22 (x := .int .i64 (b : Int)) (m := 1) hO3 rfl (by simp; omega)
            refine L_reg [0, 1, 7, 8] (fun K hK => ?_)
            simp [he]
            apply hK; clear hK K
            refine L_reg [0, 1, 7, 8] (fun K hK => ?_)
            simp [wrap_i64 (a := (b : Int) + 1) (by omega)]
            apply hK; clear hK K
            exact hcont v' H' hE' (by rw [hts]; simpa using hO')
          · rw [hg] at hts
            refine L_reg [0, 1, 7, 8] (fun K hK => ?_)
            simp [wrap_i64 (a := (b : Int) + 1) (by omega)]
            apply hK; clear hK K
            exact hcont u H3 hEEE (by rw [hts]; simpa using hO3)
        · have hc' : (checkS m ((turnL m b l').map Int.ofNat) == 0) = false := by simpa using hc
          have hgood : servT m l' b = false := by rw [servT, hc']; rfl
          rw [hgood] at hts
          refine L_reg [0, 1, 7, 8, 62] (fun K hK => ?_)
          simp [okFn_low]
          refine refCheck_ac m u2 _ _ _ (by simp [turnL_length]; omega) hv2 ?_
          simp [hc', pickV]
          apply hK; clear hK K
          refine L_false (by simp) ?_
          refine L_reg [0, 1, 7, 8] (fun K hK => ?_)
          simp [wrap_i64 (a := (b : Int) + 1) (by omega)]
          apply hK; clear hK K
          exact hcont u H2 hEE (by rw [hts]; simpa using hOu)
    · refine L_reg [4, 5] (fun K hK => ?_)
      simp
      apply hK; clear hK K
      have : b = m + 1 := by omega
      subst this
      exact L_ret ⟨.inr rfl, _, rfl, h _ _ hO.own.ls hE⟩
end Go.Proofs.Ytojblooaiojmcaa
