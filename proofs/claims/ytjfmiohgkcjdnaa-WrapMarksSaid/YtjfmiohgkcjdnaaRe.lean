/- Lists of pairs compared; what the reference answers; WrapEvens and WrapGaps, walked. -/
import Derived.Test.YtjfmiohgkcjdnaaRd
namespace Go.Proofs.Ytjfmiohgkcjdnaa
open Go Go.Proofs.Ytjfmiohgkcjdnaa.AX

theorem eq57 (a b c d : Int) : eqV Try.prog 4 57 (.agg [.int .i64 a, .int .i64 b]) (.agg [.int .i64 c, .int .i64 d]) = some (a == c && b == d) := by
  have h : eqV Try.prog 4 57 (.agg [.int .i64 a, .int .i64 b]) (.agg [.int .i64 c, .int .i64 d]) = (match (if IntKind.i64 = IntKind.i64 then some (a == c) else none) with | some true => (match (if IntKind.i64 = IntKind.i64 then some (b == d) else none) with | some true => some true | some false => some false | none => none) | some false => some false | none => none) := by kernel_rfl
  rw [h, if_pos rfl, if_pos rfl]
  cases a == c <;> cases b == d <;> rfl
theorem eg57 : Try.prog.eqGuardType Try.prog.depth 57 = false := by kernel_rfl
@[simp] theorem neq57 (l : Bool) (a b c d : Int) : binV Try.prog .neq 57 l (.agg [.int .i64 a, .int .i64 b]) (.agg [.int .i64 c, .int .i64 d]) = some (.bool (!(a == c && b == d))) := by
  have : aEqA Try.prog .neq 57 (.agg [.int .i64 a, .int .i64 b]) (.agg [.int .i64 c, .int .i64 d]) = some (.bool (!(a == c && b == d))) := by
    simp [aEqA, eq57]
  have h1 : aBin .neq (.agg [.int .i64 a, .int .i64 b]) (.agg [.int .i64 c, .int .i64 d]) = none := rfl
  have h2 : aCmp Try.prog .neq 57 l (.agg [.int .i64 a, .int .i64 b]) (.agg [.int .i64 c, .int .i64 d]) = none := by kernel_rfl
  unfold binV
  rw [h1]
  dsimp only
  rw [h2]
  exact this
theorem ag57 : aggSz Try.prog 57 = some 2 := by kernel_rfl
@[simp] theorem ld57 (H : AH) (r off ver : Nat) : loadV Try.prog 57 H (.ptr r off ver) = (ldn H r ver 2 off).map .agg := load_agg ag57 ..
@[simp] theorem ixa40 (r off len ver : Nat) (full : Bool) (k : IntKind) (i : Int) : aIndexAddr Try.prog 40 (.slice (some r) off len ver 2 full) (.int k i) = if 0 ≤ i ∧ i < len then some (.ptr r (off + i.toNat * 2) ver) else none := ixa_sl (by kernel_rfl) ..
theorem pairs_ac (u v : AV) (l m : List (Nat × Nat)) (H : AH) (Q : AV → AH → Prop) (hlen : l.length ≤ 1000000) (hu : Rs 2 H u (prs l)) (hv : Rs 2 H v (prs m)) (h : Q (.bool (decide (l = m))) H) : AC Try.prog 36 [u, v] H Q := by
  obtain ⟨r, off, ver, sz, full, rfl, hld⟩ := hu
  obtain ⟨r2, off2, ver2, sz2, full2, rfl, hld2⟩ := hv
  have hpl : (prs l).length = l.length := by simp [prs]
  have hpm : (prs m).length = m.length := by simp [prs]
  have hg : ∀ (q : List (Nat × Nat)) i (h : i < (prs q).length), (prs q)[i] = [.int .i64 ((q.getD i (0, 0)).1 : Nat), .int .i64 ((q.getD i (0, 0)).2 : Nat)] := fun q i h => by
    have h' : i < q.length := by simpa [prs] using h
    simp [prs, List.getD_eq_getElem?_getD, h']
  refine L_body 26 Try.func36 rfl rfl ?_
  refine L_reg [0, 1] (fun K hK => ?_)
  simp
  apply hK; clear hK K
  refine L_reg [0, 1, 10] (fun K hK => ?_)
  simp [hpl, hpm]
  apply hK; clear hK K
  refine L_split rfl (fun hne => ?_) (fun he => ?_)
  · have hd : l ≠ m := by
      rintro rfl
      simp at hne
    rw [decide_eq_false hd] at h
    refine L_reg [4] (fun K hK => ?_)
    simp
    apply hK; clear hK K
    exact L_ret ⟨.inr rfl, _, rfl, h⟩
  have hlm : l.length = m.length := by
    have : (l.length : Int) = m.length := by simpa using he
    omega
  refine L_reg [0, 1, 5] (fun K hK => ?_)
  simp
  apply hK; clear hK K
  refine L_block (L_loopV [5] (fun k vs H' => ∃ i : Nat, k = l.length - i ∧ i ≤ l.length ∧ (∀ j, j < i → l[j]? = m[j]?) ∧ vs = [.int .i64 i] ∧ H = H') _ [.int .i64 (0 : Nat)] rfl ⟨0, rfl, by omega, fun j hj => by omega, rfl, rfl⟩ ?_)
  rintro k _ _ ⟨i, rfl, hi, hsame, rfl, rfl⟩
  refine L_reg [0, 1, 5, 14] (fun K hK => ?_)
  simp
  apply hK; clear hK K
  refine L_dec (i < l.length) (by simp) (fun hlt => ?_) (fun hge => L_exit ?_)
  · obtain ⟨r', rfl, rfl, hrd⟩ := hld i (by omega)
    have hlt2 : i < m.length := by omega
    obtain ⟨r3, rfl, rfl, hrd2⟩ := hld2 i (by omega)
    rw [hg] at hrd hrd2
    have e1 : l[i]? = some (l.getD i (0, 0)) := by simp [List.getD_eq_getElem?_getD, hlt]
    have e2 : m[i]? = some (m.getD i (0, 0)) := by simp [List.getD_eq_getElem?_getD, hlt2]
    generalize l.getD i (0, 0) = x at hrd e1
    generalize m.getD i (0, 0) = y at hrd2 e2
    refine L_block ?_
    refine L_regQ mixed [0, 1, 5, 25] (by kernel_rfl) (fun K hK => ?_)
    simp [hlt, hlt2, hrd, hrd2]
    apply hK; clear hK K
    by_cases hxy : x = y
    · subst hxy
      refine L_false (by simp) ?_
      refine L_reg [0, 1, 5] (fun K hK => ?_)
      simp [wrap_i64 (a := (i : Int) + 1) (by omega)]
      apply hK; clear hK K
      refine ⟨l.length - (i + 1), [.int .i64 (i + 1 : Nat)], by omega, by simp, i + 1, rfl, by omega, fun j hj => ?_, rfl, rfl⟩
      by_cases e : j = i
      · subst e; rw [e1, e2]
      · exact hsame j (by omega)
    · have hd : l ≠ m := by
        rintro rfl
        rw [e1] at e2
        exact hxy (Option.some.inj e2)
      refine L_true ?_ ?_
      · simp
        by_cases h1 : x.1 = y.1
        · exact .inr fun h2 => hxy (Prod.ext h1 (by omega))
        · exact .inl (by omega)
      rw [decide_eq_false hd] at h
      refine L_reg [4] (fun K hK => ?_)
      simp
      apply hK; clear hK K
      exact L_ret ⟨.inr rfl, _, rfl, h⟩
  · have hd : l = m := by
      apply List.ext_getElem?
      intro j
      by_cases hj : j < l.length
      · exact hsame j (by omega)
      · rw [List.getElem?_eq_none (by omega), List.getElem?_eq_none (by omega)]
    rw [decide_eq_true hd] at h
    refine L_reg [4] (fun K hK => ?_)
    simp
    apply hK; clear hK K
    exact L_ret ⟨.inr rfl, _, rfl, h⟩
theorem evensR_len (m s : Int) : (evensR m s).length ≤ 100 := by
  unfold evensR
  split
  · rename_i h
    obtain ⟨m, s, rfl, rfl, a1, a2, a3⟩ := circleE_zero h
    have := evS_len m s (per m s)
    have := per_le m s
    simp only [Int.toNat_natCast]; omega
  · simp
theorem nearR_len (m s : Int) : (nearR m s).length ≤ 100 := by
  unfold nearR
  split
  · rename_i h
    obtain ⟨m, s, rfl, rfl, a1, a2, a3⟩ := circleE_zero h
    have := (nrS_le (m := m) (s := s) (per m s)).1
    have := per_le m s
    simp only [Int.toNat_natCast]; omega
  · simp
theorem chainR_len (m s : Int) : (chainR m s).length ≤ 100 := by
  unfold chainR
  split
  · rename_i h
    obtain ⟨m, s, rfl, rfl, a1, a2, a3⟩ := circleE_zero h
    have := quos_len 7 m s (by omega) a3
    simp only [Int.toNat_natCast]; omega
  · simp
theorem wrapEvens_ac (m s : Int) (H : AH) : AC Try.prog 5 [.int .i64 m, .int .i64 s] H fun u _ => u = .bool true := by
  refine L_body 84 Try.func5 rfl rfl ?_
  refine L_reg [0, 1] (fun K hK => ?_)
  simp
  apply hK; clear hK K
  refine L_reg [0, 1, 5, 6] (fun K hK => ?_)
  simp [okFn_low]
  refine Evens_ac m s _ _ (fun v1 H1 hO1 hE1 => ?_)
  simp
  apply hK; clear hK K
  refine L_reg [0, 1, 5, 6, 7, 8] (fun K hK => ?_)
  simp [okFn_low]
  refine rEvens_ac m s _ _ (fun v2 H2 hO2 hE2 => ?_)
  simp
  apply hK; clear hK K
  refine L_reg [0, 1, 5, 6, 7, 8, 9, 10] (fun K hK => ?_)
  simp [okFn_low]
  refine Nearer_ac m s _ _ (fun v3 H3 hO3 hE3 => ?_)
  simp
  apply hK; clear hK K
  refine L_reg [0, 1, 5, 6, 7, 8, 9, 10, 11, 12] (fun K hK => ?_)
  simp [okFn_low]
  refine rNearer_ac m s _ _ (fun v4 H4 hO4 hE4 => ?_)
  simp
  apply hK; clear hK K
  refine L_reg [0, 1, 5, 6, 7, 8, 9, 10, 11, 12, 13, 14] (fun K hK => ?_)
  simp [okFn_low]
  refine Chain_ac m s _ _ (fun v5 H5 hO5 hE5 => ?_)
  simp
  apply hK; clear hK K
  refine L_reg [5, 6, 7, 8, 9, 10, 11, 12, 13, 14, 15, 16] (fun K hK => ?_)
  simp [okFn_low]
  refine rChain_ac m s _ _ (fun v6 H6 hO6 hE6 => ?_)
  simp
  apply hK; clear hK K
  have l1 := hO1.own.ls.ext (hE2.trans (hE3.trans (hE4.trans (hE5.trans hE6))))
  have l2 := hO2.own.ls.ext (hE3.trans (hE4.trans (hE5.trans hE6)))
  have l3 := hO3.own.ls.ext (hE4.trans (hE5.trans hE6))
  have l4 := hO4.own.ls.ext (hE5.trans hE6)
  have l5 := hO5.own.ls.ext hE6
  have l6 := hO6.own.ls
  have n1 := evensR_len m s
  have n2 := nearR_len m s
  have n3 := chainR_len m s
  refine L_reg [4] (fun K hK => ?_)
  simp [okFn_low]
  refine same_ac _ _ _ _ H6 _ (by omega) l1 l2 ?_
  simp [okFn_low, pickV]
  refine same_ac _ _ _ _ H6 _ (by omega) l3 l4 ?_
  simp [okFn_low, pickV]
  refine same_ac _ _ _ _ H6 _ (by omega) l5 l6 ?_
  simp [okFn_low, pickV]
  refine works_ac _ _ ?_
  simp [pickV]
  apply hK; clear hK K
  exact L_ret ⟨.inr rfl, _, rfl, rfl⟩
theorem rRound_ac (m s t : Int) (H : AH) (Q : AV → AH → Prop) (h : ∀ v H', OwnF H.length H' v ((roundR m s t).map (.int .i64)) → Ext H H' → Q (.tuple [v, .int .i64 (checkE m s t)]) H') : AC Try.prog 30 [WV m s t] H Q := by
  refine L_body 12 Try.func30 rfl rfl ?_
  refine L_reg [1] (fun K hK => ?_)
  simp [AV.isU, acells, WV]
  apply hK; clear hK K
  obtain ⟨H1, e, hE, -, -, b⟩ := box3 H m s t
  rw [e]
  refine L_reg [1, 4] (fun K hK => ?_)
  simp [okFn_low, b.la]
  refine rCheck_ac m s t _ _ ?_
  simp
  apply hK; clear hK K
  refine L_reg [1, 4, 8] (fun K hK => ?_)
  simp
  apply hK; clear hK K
  unfold roundR at h
  by_cases h0 : checkE m s t = 0
  · refine L_false (by simp [h0]) ?_
    rw [if_pos h0, h0] at h
    obtain ⟨m, s, t, rfl, rfl, rfl, a1, a2, a3, a4, a5⟩ := checkE_zero h0
    simp only [Int.toNat_natCast] at h
    refine L_reg [2, 3] (fun K hK => ?_)
    simp [okFn_low, b.la]
    refine rround_ac m s t a1 a2 a3 a5 _ _ (fun v H2 hO hE2 => ?_)
    simp
    apply hK; clear hK K
    exact L_ret ⟨.inr rfl, _, rfl, h v H2 (hO.mono hE.1) (hE.trans hE2)⟩
  · refine L_true (by simp [h0]) ?_
    rw [if_neg h0] at h
    refine L_reg [2, 3] (fun K hK => ?_)
    simp
    apply hK; clear hK K
    exact L_ret ⟨.inr rfl, _, rfl, h _ _ (.nil _ _) hE⟩
theorem rGaps_ac (m s t : Int) (H : AH) (Q : AV → AH → Prop) (h : ∀ v H', OwnF H.length H' v ((gapsR m s t).map (.int .i64)) → Ext H H' → Q (.tuple [v, .int .i64 (checkE m s t)]) H') : AC Try.prog 32 [WV m s t] H Q := by
  refine L_body 12 Try.func32 rfl rfl ?_
  refine L_reg [1] (fun K hK => ?_)
  simp [AV.isU, acells, WV]
  apply hK; clear hK K
  obtain ⟨H1, e, hE, -, -, b⟩ := box3 H m s t
  rw [e]
  refine L_reg [1, 4] (fun K hK => ?_)
  simp [okFn_low, b.la]
  refine rCheck_ac m s t _ _ ?_
  simp
  apply hK; clear hK K
  refine L_reg [1, 4, 8] (fun K hK => ?_)
  simp
  apply hK; clear hK K
  unfold gapsR at h
  by_cases h0 : checkE m s t = 0
  · refine L_false (by simp [h0]) ?_
    rw [if_pos h0, h0] at h
    obtain ⟨m, s, t, rfl, rfl, rfl, a1, a2, a3, a4, a5⟩ := checkE_zero h0
    simp only [Int.toNat_natCast] at h
    refine L_reg [2, 3] (fun K hK => ?_)
    simp [okFn_low, b.la]
    refine rgaps_ac m s t a1 a2 a3 a5 _ _ (fun v H2 hO hE2 => ?_)
    simp
    apply hK; clear hK K
    exact L_ret ⟨.inr rfl, _, rfl, h v H2 (hO.mono hE.1) (hE.trans hE2)⟩
  · refine L_true (by simp [h0]) ?_
    rw [if_neg h0] at h
    refine L_reg [2, 3] (fun K hK => ?_)
    simp
    apply hK; clear hK K
    exact L_ret ⟨.inr rfl, _, rfl, h _ _ (.nil _ _) hE⟩
theorem rWidths_ac (m s t : Int) (H : AH) (Q : AV → AH → Prop) (h : ∀ v H', OwnK 2 H.length H' v (prs (widthsR m s t)) → Ext H H' → Q (.tuple [v, .int .i64 (checkE m s t)]) H') : AC Try.prog 34 [WV m s t] H Q := by
  refine L_body 12 Try.func34 rfl rfl ?_
  refine L_reg [1] (fun K hK => ?_)
  simp [AV.isU, acells, WV]
  apply hK; clear hK K
  obtain ⟨H1, e, hE, -, -, b⟩ := box3 H m s t
  rw [e]
  refine L_reg [1, 4] (fun K hK => ?_)
  simp [okFn_low, b.la]
  refine rCheck_ac m s t _ _ ?_
  simp
  apply hK; clear hK K
  refine L_reg [1, 4, 8] (fun K hK => ?_)
  simp
  apply hK; clear hK K
  unfold widthsR at h
  by_cases h0 : checkE m s t = 0
  · refine L_false (by simp [h0]) ?_
    rw [if_pos h0, h0] at h
    obtain ⟨m, s, t, rfl, rfl, rfl, a1, a2, a3, a4, a5⟩ := checkE_zero h0
    simp only [Int.toNat_natCast] at h
    refine L_reg [2, 3] (fun K hK => ?_)
    simp [okFn_low, b.la]
    refine rwidths_ac m s t a1 a2 a3 a5 _ _ (fun v H2 hO hE2 => ?_)
    simp
    apply hK; clear hK K
    exact L_ret ⟨.inr rfl, _, rfl, h v H2 (⟨hO.1, hO.2.imp id fun ⟨r, ver, st, g1, g2⟩ => ⟨r, ver, st, Nat.le_trans hE.1 g1, g2⟩⟩) (hE.trans hE2)⟩
  · refine L_true (by simp [h0]) ?_
    rw [if_neg h0] at h
    refine L_reg [2, 3] (fun K hK => ?_)
    simp
    apply hK; clear hK K
    exact L_ret ⟨.inr rfl, _, rfl, h _ _ (OwnK.nil _ _ _) hE⟩
theorem roundR_len (m s t : Int) : (roundR m s t).length ≤ 100 ∧ (gapsR m s t).length ≤ 100 ∧ (widthsR m s t).length ≤ 101 := by
  unfold roundR gapsR widthsR
  by_cases h : checkE m s t = 0
  · rw [if_pos h, if_pos h, if_pos h]
    obtain ⟨m, s, t, rfl, rfl, rfl, a1, a2, a3, a4, a5⟩ := checkE_zero h
    have := per_le m s
    simp only [Int.toNat_natCast]
    rw [roundS_len (by omega) a5, gapsS_len (by omega) a5]
    exact ⟨by omega, by omega, widN_le _ _⟩
  · rw [if_neg h, if_neg h, if_neg h]; simp
theorem wrapGaps_ac (m s t : Int) (H : AH) : AC Try.prog 4 [WV m s t] H fun u _ => u = .bool true := by
  refine L_body 78 Try.func4 rfl rfl ?_
  refine L_reg [1] (fun K hK => ?_)
  simp [AV.isU, acells, WV]
  apply hK; clear hK K
  obtain ⟨H1, e, hE, hl1, r1, b⟩ := box3 H m s t
  rw [e]
  refine L_reg [1, 3] (fun K hK => ?_)
  simp [b.la, alloc_z zt24, newV]
  apply hK; clear hK K
  obtain ⟨H2, e2, hE2, hl2, r2, c⟩ := box3 H1 m s t
  rw [e2]
  have b2 := b.ext hE2
  generalize H.length = p at *
  generalize H1.length = q at *
  clear hl1 r1 hl2 r2 hE2 hE e e2 b
  clear H1
  have c2 := c
  refine L_reg [1, 3, 4, 5] (fun K hK => ?_)
  simp [okFn_low, b2.la]
  refine Round_ac m s t _ _ (fun v0 H3 hO0 hE3 => ?_)
  simp
  apply hK; clear hK K
  have b3 := b2.ext hE3
  have c3 := c2.ext hE3
  refine L_reg [1, 3, 4, 5, 6, 7] (fun K hK => ?_)
  simp [okFn_low, c3.la]
  refine rRound_ac m s t _ _ (fun v1 H4 hO1 hE4 => ?_)
  simp
  apply hK; clear hK K
  have b4 := b3.ext hE4
  have c4 := c3.ext hE4
  refine L_reg [1, 3, 4, 5, 6, 7, 8, 9] (fun K hK => ?_)
  simp [okFn_low, b4.la]
  refine Gaps_ac m s t _ _ (fun v2 H5 hO2 hE5 => ?_)
  simp
  apply hK; clear hK K
  have b5 := b4.ext hE5
  have c5 := c4.ext hE5
  refine L_reg [1, 3, 4, 5, 6, 7, 8, 9, 10, 11] (fun K hK => ?_)
  simp [okFn_low, c5.la]
  refine rGaps_ac m s t _ _ (fun v3 H6 hO3 hE6 => ?_)
  simp
  apply hK; clear hK K
  have b6 := b5.ext hE6
  have c6 := c5.ext hE6
  refine L_reg [3, 4, 5, 6, 7, 8, 9, 10, 11, 12, 13] (fun K hK => ?_)
  simp [okFn_low, b6.la]
  refine Widths_ac m s t _ _ (fun v4 H7 hO4 hE7 => ?_)
  simp
  apply hK; clear hK K
  have b7 := b6.ext hE7
  have c7 := c6.ext hE7
  refine L_reg [4, 5, 6, 7, 8, 9, 10, 11, 12, 13, 14, 15] (fun K hK => ?_)
  simp [okFn_low, c7.la]
  refine rWidths_ac m s t _ _ (fun v5 H8 hO5 hE8 => ?_)
  simp
  apply hK; clear hK K
  have b8 := b7.ext hE8
  have c8 := c7.ext hE8
  have l0 := hO0.own.ls.ext (hE4.trans (hE5.trans (hE6.trans (hE7.trans hE8))))
  have l1 := hO1.own.ls.ext (hE5.trans (hE6.trans (hE7.trans hE8)))
  have l2 := hO2.own.ls.ext (hE6.trans (hE7.trans hE8))
  have l3 := hO3.own.ls.ext (hE7.trans hE8)
  have l4 := hO4.rs.ext hE8
  have l5 := hO5.rs
  obtain ⟨n1, n2, n3⟩ := roundR_len m s t
  refine L_reg [2] (fun K hK => ?_)
  simp [okFn_low]
  refine same_ac _ _ _ _ H8 _ (by omega) l0 l1 ?_
  simp [okFn_low, pickV]
  refine same_ac _ _ _ _ H8 _ (by omega) l2 l3 ?_
  simp [okFn_low, pickV]
  refine pairs_ac _ _ _ _ H8 _ (by omega) l4 l5 ?_
  simp [okFn_low, pickV]
  refine works_ac _ _ ?_
  simp [pickV]
  apply hK; clear hK K
  exact L_ret ⟨.inr rfl, _, rfl, rfl⟩
end Go.Proofs.Ytjfmiohgkcjdnaa
