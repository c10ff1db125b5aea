/- The reference: even numbers, turns that come nearer, quotients. -/
import Derived.Test.YtjfmiohgkcjdnaaRc
namespace Go.Proofs.Ytjfmiohgkcjdnaa
open Go Go.Proofs.Ytjfmiohgkcjdnaa.AX

theorem OwnF.up {N : Nat} {H H1 : AH} {v : AV} {l : List AV} (h : OwnF N H v l) (hE : Ext H H1) : OwnF N H1 v l := by
  rcases h with h | ⟨r, ver, st, g1, g2, g3⟩
  · exact .inl h
  · exact .inr ⟨r, ver, st, g1, g2, hE.row g3⟩
theorem OwnF.off {N p : Nat} {H : AH} {v : AV} {l : List AV} (h : OwnF N H v l) (hp : p < N) (o : AObj) : OwnF N (H.set p o) v l := by
  rcases h with h | ⟨r, ver, st, g1, g2, g3⟩
  · exact .inl h
  · exact .inr ⟨r, ver, st, g1, g2, by rw [set_ne (by omega)]; exact g3⟩
theorem ext_set {H H1 : AH} {a b : AObj} (h : Ext (H ++ [a]) H1) : Ext (H ++ [b]) (H1.set H.length b) := by
  refine ⟨by have := h.1; simp at this ⊢; omega, fun j hj => ?_⟩
  by_cases e : j = H.length
  · subst e
    rw [get_set (h.2 _ (by simp)  |>.trans (by simp) : H1[H.length]? = some a)]
    simp
  · have h1 := h.2 j (by simp at hj ⊢; omega)
    rw [set_ne (Ne.symm e), h1]
    simp at hj
    rw [List.getElem?_append_left (by omega), List.getElem?_append_left (by omega)]
def rw3 (m s t : Int) : AObj := .row [.int .i64 m, .int .i64 s, .int .i64 t] 0 0 false
theorem rw3_get {H H1 : AH} {m s t : Int} (h : Ext (H ++ [rw3 m s t]) H1) : H1[H.length]? = some (.row [.int .i64 m, .int .i64 s, .int .i64 t] 0 0 false) := h.row (o := rw3 m s t) (by simp)
theorem pre_ext {H H1 : AH} {o : AObj} (h : Ext (H ++ [o]) H1) : Ext H H1 := (Ext.push H [o]).trans h
set_option maxRecDepth 100000 in
theorem rEvens_ac (m s : Int) (H : AH) (Q : AV → AH → Prop) (h : ∀ v H', OwnF H.length H' v ((evensR m s).map (.int .i64)) → Ext H H' → Q (.tuple [v, .int .i64 (circleE m s)]) H') : AC Try.prog 38 [.int .i64 m, .int .i64 s] H Q := by
  refine L_body 38 Try.func38 rfl rfl ?_
  refine L_reg [0, 1] (fun K hK => ?_)
  simp
  apply hK; clear hK K
  unfold evensR at h
  refine L_reg [0, 1, 6] (fun K hK => ?_)
  simp [okFn_low]
  refine rcircle_ac m s _ _ ?_
  simp
  apply hK; clear hK K
  refine L_reg [0, 1, 6, 13] (fun K hK => ?_)
  simp
  apply hK; clear hK K
  by_cases h0 : circleE m s = 0
  · simp only [h0, if_true] at h
    obtain ⟨m, s, rfl, rfl, a1, a2, a3⟩ := circleE_zero h0
    simp only [Int.toNat_natCast] at h
    refine L_false (by simp [h0]) ?_
    refine L_reg [0, 1, 7] (fun K hK => ?_)
    simp
    apply hK; clear hK K
    refine L_reg [7, 8] (fun K hK => ?_)
    simp [alloc_z zt24, newV]
    apply hK; clear hK K
    have hr0 : (H ++ [AObj.row [.int .i64 (m : Int), .int .i64 (s : Int), .int .i64 0] 0 0 false])[H.length]? = some (.row [.int .i64 m, .int .i64 s, .int .i64 0] 0 0 false) := by simp
    have hE0 : Ext (H ++ [rw3 m s 0]) (H ++ [AObj.row [.int .i64 (m : Int), .int .i64 (s : Int), .int .i64 0] 0 0 false]) := .refl _
    generalize H ++ [AObj.row [.int .i64 (m : Int), .int .i64 (s : Int), .int .i64 0] 0 0 false] = H1 at hr0 hE0 ⊢
    refine L_reg [7, 8] (fun K hK => ?_)
    simp [setT hr0]
    apply hK; clear hK K
    have hE1 : Ext (H ++ [rw3 m s 1]) (H1.set H.length (AObj.row [.int .i64 m, .int .i64 s, .int .i64 1] 0 0 false)) := ext_set hE0
    generalize H1.set H.length (AObj.row [.int .i64 m, .int .i64 s, .int .i64 1] 0 0 false) = H2 at hE1 ⊢
    have hpm := per_le m s
    refine L_block (L_loopV [7] (fun n vs H' => ∃ (k : Nat) (v : AV), n = per m s - k ∧ k ≤ per m s ∧ vs = [v] ∧ OwnF (H.length + 1) H' v ((evS m s k).map (.int .i64)) ∧ Ext (H ++ [rw3 m s ((k : Int) + 1)]) H') _ [.slice none 0 0 0 1 false] rfl ⟨0, _, rfl, by omega, rfl, .nil _ _, by simpa using hE1⟩ ?_)
    rintro n _ H3 ⟨k, v, rfl, hk, rfl, hO, hE3⟩
    have hr3 := rw3_get hE3
    have b3 := Bx.row hr3
    refine L_regQ mixed [7, 8, 23] (by kernel_rfl) (fun K hK => ?_)
    simp [okFn_low, b3.l2, b3.la]
    refine exQ_mk (fun Q hQ => rdiff_ac m s ((k : Int) + 1) a1 a2 a3 H3 Q hQ) ?_
    simp
    apply hK; clear hK K
    have hle := evS_len m s k
    refine L_dec ((k : Int) + 1 ≤ per m s) (by simp) (fun hlt => ?_) (fun hge => L_exit ?_)
    · refine L_block ?_
      have hsucc := evS_succ m s k
      have hdd := rwidths_ac m s (k + 1) a1 a2 a3 (by omega) H3
      have hk1 : ((k + 1 : Nat) : Int) = (k : Int) + 1 := by omega
      rw [hk1] at hdd
      unfold WV at hdd
      refine L_reg [7, 8, 31] (fun K hK => ?_)
      simp [okFn_low, b3.la]
      refine hdd _ (fun u H4 hO4 hE4 => ?_)
      obtain ⟨r, ver, sz, rfl⟩ := hO4.len
      simp [prs]
      apply hK; clear hK K
      have hO5 := OwnF.up hO hE4
      have hE5 := hE3.trans hE4
      have hr5 := rw3_get hE5
      have b5 := Bx.row hr5
      refine L_dec ((widthsS m s (k + 1)).length ≤ 2) (by simp; omega) (fun hd => ?_) (fun hd => ?_)
      · rw [if_pos hd] at hsucc
        obtain ⟨v', H6, happ, hO6, hE6⟩ := ownF_append hE5 el36 el36 (x := .int .i64 ((k : Int) + 1)) (m := 1) (by simpa using hO5) rfl (by simp; omega)
        refine L_reg [7, 8] (fun K hK => ?_)
        simp [b5.l2, happ]
        apply hK; clear hK K
        have hr6 := rw3_get hE6
        have b6 := Bx.row hr6
        refine L_reg [7, 8] (fun K hK => ?_)
        simp [b6.l2, setT hr6, wrap_i64 (a := (k : Int) + 1 + 1) (by omega)]
        apply hK; clear hK K
        refine ⟨per m s - (k + 1), [v'], by omega, by simp, k + 1, v', rfl, by omega, rfl, ?_, by simpa [rw3] using ext_set (b := rw3 m s ((k : Int) + 1 + 1)) hE6⟩
        rw [hsucc]
        exact OwnF.off (by simpa using hO6) (by omega) _
      · rw [if_neg hd] at hsucc
        refine L_reg [7, 8] (fun K hK => ?_)
        simp [b5.l2, setT hr5, wrap_i64 (a := (k : Int) + 1 + 1) (by omega)]
        apply hK; clear hK K
        refine ⟨per m s - (k + 1), [v], by omega, by simp, k + 1, v, rfl, by omega, rfl, ?_, by simpa [rw3] using ext_set (b := rw3 m s ((k : Int) + 1 + 1)) hE5⟩
        rw [hsucc]
        exact OwnF.off hO5 (by omega) _
    · have hk' : k = per m s := by omega
      refine L_reg [4, 5] (fun K hK => ?_)
      simp
      apply hK; clear hK K
      exact L_ret ⟨.inr rfl, _, rfl, by exact h v H3 (by rw [← hk']; exact hO.mono (by omega)) (pre_ext hE3)⟩
  · simp only [if_neg h0] at h
    refine L_true (by simp [h0]) ?_
    refine L_reg [4, 5] (fun K hK => ?_)
    simp
    apply hK; clear hK K
    exact L_ret ⟨.inr rfl, _, rfl, h _ _ (.nil _ _) (.refl _)⟩
set_option maxRecDepth 100000 in
theorem rNearer_ac (m s : Int) (H : AH) (Q : AV → AH → Prop) (h : ∀ v H', OwnF H.length H' v ((nearR m s).map (.int .i64)) → Ext H H' → Q (.tuple [v, .int .i64 (circleE m s)]) H') : AC Try.prog 40 [.int .i64 m, .int .i64 s] H Q := by
  refine L_body 46 Try.func40 rfl rfl ?_
  refine L_reg [0, 1] (fun K hK => ?_)
  simp
  apply hK; clear hK K
  unfold nearR at h
  refine L_reg [0, 1, 6] (fun K hK => ?_)
  simp [okFn_low]
  refine rcircle_ac m s _ _ ?_
  simp
  apply hK; clear hK K
  refine L_reg [0, 1, 6, 16] (fun K hK => ?_)
  simp
  apply hK; clear hK K
  by_cases h0 : circleE m s = 0
  · simp only [h0, if_true] at h
    obtain ⟨m, s, rfl, rfl, a1, a2, a3⟩ := circleE_zero h0
    simp only [Int.toNat_natCast] at h
    refine L_false (by simp [h0]) ?_
    refine L_reg [0, 7] (fun K hK => ?_)
    simp [alloc_z zt24, newV]
    apply hK; clear hK K
    obtain ⟨H1, e, hE, hl1, r1, b⟩ := box3 H m s 0
    rw [e]
    refine L_reg [0, 7, 8] (fun K hK => ?_)
    simp
    apply hK; clear hK K
    refine L_reg [0, 7, 8, 9] (fun K hK => ?_)
    simp
    apply hK; clear hK K
    refine L_reg [0, 7, 8, 9, 10] (fun K hK => ?_)
    simp
    apply hK; clear hK K
    have hpm := per_le m s
    refine L_block (L_loopV [8, 9, 10] (fun n vs H' => ∃ (k : Nat) (v : AV), n = per m s - k ∧ k ≤ per m s ∧ vs = [v, .int .i64 (nrS m s k).2, .int .i64 ((k : Int) + 1)] ∧ OwnF H1.length H' v ((nrS m s k).1.map (.int .i64)) ∧ Ext H1 H') _ [.slice none 0 0 0 1 false, .int .i64 (m : Nat), .int .i64 1] rfl ⟨0, _, rfl, by omega, rfl, .nil _ _, .refl _⟩ ?_)
    rintro n _ H2 ⟨k, v, rfl, hk, rfl, hO, hE2⟩
    have b2 := b.ext hE2
    refine L_reg [0, 7, 8, 9, 10, 25] (fun K hK => ?_)
    simp [okFn_low, b2.la]
    refine rdiff_ac m s 0 a1 a2 a3 _ _ ?_
    simp
    apply hK; clear hK K
    have hle := nrS_le (m := m) (s := s) k
    refine L_dec ((k : Int) + 1 ≤ per m s) (by simp) (fun hlt => ?_) (fun hge => L_exit ?_)
    · refine L_block ?_
      have hsucc : nrS m s (k + 1) = if distN m s (k + 1) < (nrS m s k).2 then ((nrS m s k).1 ++ [((k + 1 : Nat) : Int)], distN m s (k + 1)) else nrS m s k := rfl
      have hks := bound (k := k + 1) a2 a3 (Nat.le_refl _) (by omega)
      have hk1 : ((k + 1 : Nat) : Int) = (k : Int) + 1 := by omega
      have hdd := rmark_ac m s (k + 1) 0 (by omega) (by omega) H2
      have hml2 : (k + 1) * s % m < m := Nat.mod_lt _ (by omega)
      unfold distN at hsucc
      rw [hk1] at hdd hsucc
      generalize hw2 : (k + 1) * s % m = w2 at *
      have e3 : min (w2 : Int) ((m : Int) - w2) = ((min w2 (m - w2) : Nat) : Int) := by omega
      generalize min w2 (m - w2) = d at hsucc e3
      generalize hnr : nrS m s k = nn at hO hle hsucc
      obtain ⟨L, nr⟩ := nn
      simp only at hO hle hsucc
      refine L_regQ mixed [0, 7, 8, 9, 10, 11] (by kernel_rfl) (fun K hK => ?_)
      simp [okFn_low, b2.la]
      refine exQ_mk (fun Q hQ => hdd Q hQ) ?_
      simp [okFn_low, b2.la]
      refine exQ_mk (fun Q hQ => hdd Q hQ) ?_
      simp [wrap_i64 (a := (m : Int) - w2) (by omega), e3]
      apply hK; clear hK K
      refine L_reg [0, 7, 8, 9, 10, 11, 39] (fun K hK => ?_)
      simp
      apply hK; clear hK K
      refine L_dec (d < nr) (by simp) (fun hd => ?_) (fun hd => ?_)
      · rw [if_pos hd] at hsucc
        obtain ⟨v', H3, happ, hO3, hE3⟩ := ownF_append hE2 el36 el36 (x := .int .i64 ((k : Int) + 1)) (m := 1) hO rfl (by simp; omega)
        refine L_reg [0, 7, 8, 10, 11] (fun K hK => ?_)
        simp [happ]
        apply hK; clear hK K
        refine L_reg [0, 7, 8, 9, 10] (fun K hK => ?_)
        simp
        apply hK; clear hK K
        refine L_reg [0, 7, 8, 9, 10] (fun K hK => ?_)
        simp [wrap_i64 (a := (k : Int) + 1 + 1) (by omega)]
        apply hK; clear hK K
        refine ⟨per m s - (k + 1), [v', .int .i64 d, .int .i64 ((k : Int) + 1 + 1)], by omega, by simp, k + 1, v', rfl, by omega, by rw [hsucc]; simp, by rw [hsucc]; simpa using hO3, hE3⟩
      · rw [if_neg hd] at hsucc
        refine L_reg [0, 7, 8, 9, 10] (fun K hK => ?_)
        simp [wrap_i64 (a := (k : Int) + 1 + 1) (by omega)]
        apply hK; clear hK K
        refine ⟨per m s - (k + 1), [v, .int .i64 nr, .int .i64 ((k : Int) + 1 + 1)], by omega, by simp, k + 1, v, rfl, by omega, by rw [hsucc]; simp, by rw [hsucc]; exact hO, hE2⟩
    · have hk' : k = per m s := by omega
      refine L_reg [4, 5] (fun K hK => ?_)
      simp
      apply hK; clear hK K
      exact L_ret ⟨.inr rfl, _, rfl, by exact h v H2 (by rw [← hk']; exact hO.mono (by omega)) (hE.trans hE2)⟩
  · simp only [if_neg h0] at h
    refine L_true (by simp [h0]) ?_
    refine L_reg [4, 5] (fun K hK => ?_)
    simp
    apply hK; clear hK K
    exact L_ret ⟨.inr rfl, _, rfl, h _ _ (.nil _ _) (.refl _)⟩
set_option maxRecDepth 100000 in
theorem rChain_ac (m s : Int) (H : AH) (Q : AV → AH → Prop) (h : ∀ v H', OwnF H.length H' v ((chainR m s).map (.int .i64)) → Ext H H' → Q (.tuple [v, .int .i64 (circleE m s)]) H') : AC Try.prog 42 [.int .i64 m, .int .i64 s] H Q := by
  refine L_body 31 Try.func42 rfl rfl ?_
  refine L_reg [0, 1] (fun K hK => ?_)
  simp
  apply hK; clear hK K
  unfold chainR at h
  refine L_reg [0, 1, 6] (fun K hK => ?_)
  simp [okFn_low]
  refine rcircle_ac m s _ _ ?_
  simp
  apply hK; clear hK K
  refine L_reg [0, 1, 6, 14] (fun K hK => ?_)
  simp
  apply hK; clear hK K
  by_cases h0 : circleE m s = 0
  · simp only [h0, if_true] at h
    obtain ⟨a, b, rfl, rfl, a1, a2, a3⟩ := circleE_zero h0
    simp only [Int.toNat_natCast] at h
    refine L_false (by simp [h0]) ?_
    refine L_reg [0, 1, 7] (fun K hK => ?_)
    simp
    apply hK; clear hK K
    refine L_reg [7, 8, 9] (fun K hK => ?_)
    simp
    apply hK; clear hK K
    refine L_block (L_loopV [7, 8, 9] (fun k vs H' => ∃ (x y : Nat) (v : AV) (d : List Int), k = y ∧ x ≤ 1000 ∧ y ≤ 1000 ∧ d.length + y ≤ 1000 ∧ d ++ quos x y = quos a b ∧ vs = [v, .int .i64 x, .int .i64 y] ∧ OwnF H.length H' v (d.map (.int .i64)) ∧ Ext H H') _ [.slice none 0 0 0 1 false, .int .i64 a, .int .i64 b] rfl ⟨a, b, _, [], rfl, by omega, by omega, by simp; omega, rfl, rfl, .nil _ _, .refl _⟩ ?_)
    rintro k _ H1 ⟨x, y, v, d, rfl, hx, hy, hd, hq, rfl, hO, hE⟩
    refine L_reg [7, 8, 9, 19] (fun K hK => ?_)
    simp
    apply hK; clear hK K
    by_cases hy0 : k = 0
    · subst hy0
      refine L_false (by simp) (L_exit ?_)
      refine L_reg [4, 5] (fun K hK => ?_)
      simp
      apply hK; clear hK K
      have hq' : d = quos a b := by rw [← hq, quos_zero]; simp
      exact L_ret ⟨.inr rfl, _, rfl, by exact h v H1 (by rw [← hq']; exact hO) hE⟩
    · refine L_true (by simp; omega) ?_
      refine L_block ?_
      have hq2 := quos_pos x hy0
      have hdiv : ((x : Int)).tdiv k = ((x / k : Nat) : Int) := by rw [Int.tdiv_eq_ediv_of_nonneg (by omega)]; rfl
      have hmod : ((x : Int)).tmod k = ((x % k : Nat) : Int) := by rw [Int.tmod_eq_emod_of_nonneg (by omega)]; rfl
      have hq0 : x / k ≤ x := Nat.div_le_self _ _
      have hr0 : x % k < k := Nat.mod_lt _ (by omega)
      generalize x / k = q at hq2 hdiv hq0
      generalize x % k = r at hq2 hmod hr0
      obtain ⟨v', H', he, hO', hE'⟩ := ownF_append hE el36 el36 (x := .int .i64 (q : Int)) (m := 1) hO rfl (by simp; omega)
      refine L_reg [7, 8, 9] (fun K hK => ?_)
      simp [hy0, hdiv, wrap_i64 (a := (q : Int)) (by omega), he]
      apply hK; clear hK K
      refine L_regT mixed [7, 8, 9] (by kernel_rfl) (fun K hK => ?_)
      simp [hy0, hmod]
      apply hK; clear hK K
      refine ⟨r, _, by omega, by simp, k, r, v', d ++ [(q : Int)], rfl, hy, by omega, by simp; omega, ?_, rfl, by simpa using hO', hE'⟩
      rw [List.append_assoc, ← hq, hq2]; rfl
  · simp only [if_neg h0] at h
    refine L_true (by simp [h0]) ?_
    refine L_reg [4, 5] (fun K hK => ?_)
    simp
    apply hK; clear hK K
    exact L_ret ⟨.inr rfl, _, rfl, h _ _ (.nil _ _) (.refl _)⟩
end Go.Proofs.Ytjfmiohgkcjdnaa
