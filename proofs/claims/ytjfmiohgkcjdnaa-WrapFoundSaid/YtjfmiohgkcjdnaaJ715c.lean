/- Joined texts: Rc, Rd, Re, Rf, Marks, Found. -/
import Derived.Test.YtjfmiohgkcjdnaaJ715b
import Derived.Test.YtjfmiohgkcjdnaaAxR
/- The reference: first turns, even numbers, turns that come nearer, quotients. -/
namespace Go.Proofs.Ytjfmiohgkcjdnaa
open Go Go.Proofs.Ytjfmiohgkcjdnaa.AX

theorem newV (H : AH) (a b c : Int) : storeV Try.prog 24 (H ++ [AObj.row [.int .i64 0, .int .i64 0, .int .i64 0] 0 0 false]) (.ptr H.length 0 0) (.agg [.int .i64 a, .int .i64 b, .int .i64 c]) = some (none, H ++ [.row [.int .i64 a, .int .i64 b, .int .i64 c] 0 0 false]) := by
  rw [store_agg ag24 (c := [.int .i64 0, .int .i64 0, .int .i64 0]) (s := 0) (by simp) (by decide) rfl (by simp) rfl (by simp [AV.one])]
  simp
theorem rFirst_ac0 (m s low high : Int) (H : AH) (Q : AV → AH → Prop) (h : ∀ H', Ext H H' → Q (.tuple [.int .i64 (firstR m s low high).1, .int .i64 (firstR m s low high).2]) H') : AC Try.prog 44 [.int .i64 m, .int .i64 s, .int .i64 low, .int .i64 high] H Q := by
  refine L_body 58 Try.func44 rfl rfl ?_
  refine L_reg [0, 1, 2, 3] (fun K hK => ?_)
  simp
  apply hK; clear hK K
  refine L_reg [0, 1, 2, 3, 10] (fun K hK => ?_)
  simp [okFn_low]
  refine rcircle_ac m s _ _ ?_
  simp
  apply hK; clear hK K
  unfold firstR at h
  by_cases h0 : circleE m s = 0
  · obtain ⟨m, s, rfl, rfl, a1, a2, a3⟩ := circleE_zero h0
    rw [if_pos h0] at h
    simp only [Int.toNat_natCast] at h
    by_cases h1 : 0 ≤ low ∧ low ≤ (m : Int) - 1
    · refine L_reg [0, 1, 2, 3, 10, 31] (fun K hK => ?_)
      simp [okFn_low, h0, wrap_i64 (a := (m : Int) - 1) (by omega)]
      refine rin_ac _ _ _ _ _ ?_
      simp [okFn_low, h1, wrap_i64 (a := (m : Int) - 1) (by omega)]
      refine rin_ac _ _ _ _ _ ?_
      simp [pickV]
      apply hK; clear hK K
      by_cases h2 : 0 ≤ high ∧ high ≤ (m : Int) - 1
      · rw [if_pos (by omega)] at h
        refine L_false (by simp [h2]) ?_
        refine L_reg [0, 1, 2, 3, 10, 38] (fun K hK => ?_)
        simp [pickV]
        apply hK; clear hK K
        refine L_dec (high < low) (by simp) (fun h3 => ?_) (fun h3 => ?_)
        · rw [if_pos h3] at h
          refine L_reg [0, 1, 2, 3, 10] (fun K hK => ?_)
          simp
          apply hK; clear hK K
          refine L_reg [0, 1, 2, 3, 10, 40] (fun K hK => ?_)
          simp
          apply hK; clear hK K
          refine L_true (by simp) ?_
          refine L_reg [8, 9] (fun K hK => ?_)
          simp
          apply hK; clear hK K
          exact L_ret ⟨.inr rfl, _, rfl, h _ (.refl _)⟩
        · rw [if_neg h3] at h
          refine L_reg [0, 1, 2, 3, 10, 40] (fun K hK => ?_)
          simp
          apply hK; clear hK K
          refine L_false (by simp) ?_
          refine L_reg [2, 3, 11] (fun K hK => ?_)
          simp [alloc_z zt24, newV]
          apply hK; clear hK K
          obtain ⟨H1, e, hE, hl1, r1, b⟩ := box3 H m s 0
          rw [e]
          refine L_reg [2, 3, 11, 12] (fun K hK => ?_)
          simp
          apply hK; clear hK K
          have hpm := per_le m s
          refine L_block (L_loopV [12] (fun n vs H' => ∃ k : Nat, n = per m s - k ∧ k ≤ per m s ∧ firstS m s low high (per m s - k) k = firstS m s low high (per m s) 0 ∧ vs = [.int .i64 k] ∧ H1 = H') _ [.int .i64 0] rfl ⟨0, rfl, by omega, rfl, rfl, rfl⟩ ?_)
          rintro n _ _ ⟨k, rfl, hk, hf, rfl, rfl⟩
          refine L_reg [2, 3, 11, 12, 48] (fun K hK => ?_)
          simp [okFn_low, b.la]
          refine rdiff_ac m s 0 a1 a2 a3 _ _ ?_
          simp
          apply hK; clear hK K
          refine L_dec (k < per m s) (by simp) (fun hlt => ?_) (fun hge => L_exit ?_)
          · refine L_block ?_
            have hks := bound (k := k) a2 a3 (Nat.le_refl _) (by omega)
            rw [show per m s - k = (per m s - (k + 1)) + 1 by omega, firstS] at hf
            generalize hmk : k * s % m = mk at hf
            refine L_reg [2, 3, 11, 12, 56] (fun K hK => ?_)
            simp [okFn_low, b.la]
            refine rmark_ac m s k 0 (by omega) (by omega) _ _ ?_
            simp [okFn_low, hmk]
            refine rin_ac _ _ _ _ _ ?_
            simp
            apply hK; clear hK K
            by_cases h4 : low ≤ (mk : Int) ∧ (mk : Int) ≤ high
            · refine L_true (by simp [h4]) ?_
              rw [if_pos h4] at hf
              rw [← hf] at h
              refine L_reg [8, 9] (fun K hK => ?_)
              simp
              apply hK; clear hK K
              exact L_ret ⟨.inr rfl, _, rfl, h _ hE⟩
            · refine L_false (by simp; omega) ?_
              rw [if_neg h4] at hf
              refine L_reg [2, 3, 11, 12] (fun K hK => ?_)
              simp [wrap_i64 (a := (k : Int) + 1) (by omega)]
              apply hK; clear hK K
              exact ⟨per m s - (k + 1), [.int .i64 ((k + 1 : Nat) : Int)], by omega, by simp, k + 1, rfl, by omega, hf, rfl, rfl⟩
          · rw [show per m s - k = 0 by omega, firstS] at hf
            rw [← hf] at h
            refine L_reg [8, 9] (fun K hK => ?_)
            simp
            apply hK; clear hK K
            exact L_ret ⟨.inr rfl, _, rfl, h _ hE⟩
      · rw [if_neg (by omega)] at h
        refine L_true (by simp; omega) ?_
        refine L_reg [0, 1, 2, 3, 10] (fun K hK => ?_)
        simp
        apply hK; clear hK K
        refine L_reg [0, 1, 2, 3, 10, 38] (fun K hK => ?_)
        simp [pickV]
        apply hK; clear hK K
        refine L_false (by simp) ?_
        refine L_reg [0, 1, 2, 3, 10, 40] (fun K hK => ?_)
        simp
        apply hK; clear hK K
        refine L_true (by simp) ?_
        refine L_reg [8, 9] (fun K hK => ?_)
        simp
        apply hK; clear hK K
        exact L_ret ⟨.inr rfl, _, rfl, h _ (.refl _)⟩
    · rw [if_neg (by omega)] at h
      refine L_reg [0, 1, 2, 3, 10, 31] (fun K hK => ?_)
      simp [okFn_low, h0, wrap_i64 (a := (m : Int) - 1) (by omega)]
      refine rin_ac _ _ _ _ _ ?_
      simp [pickV, h1]
      apply hK; clear hK K
      refine L_true (by simp) ?_
      refine L_reg [0, 1, 2, 3, 10] (fun K hK => ?_)
      simp
      apply hK; clear hK K
      refine L_reg [0, 1, 2, 3, 10, 38] (fun K hK => ?_)
      simp [pickV]
      apply hK; clear hK K
      refine L_false (by simp) ?_
      refine L_reg [0, 1, 2, 3, 10, 40] (fun K hK => ?_)
      simp
      apply hK; clear hK K
      refine L_true (by simp) ?_
      refine L_reg [8, 9] (fun K hK => ?_)
      simp
      apply hK; clear hK K
      exact L_ret ⟨.inr rfl, _, rfl, h _ (.refl _)⟩
  · have hb : (circleE m s == 0) = false := by simpa using h0
    rw [if_neg h0] at h
    refine L_reg [0, 1, 2, 3, 10, 31] (fun K hK => ?_)
    simp [pickV, hb]
    apply hK; clear hK K
    refine L_false (by simp) ?_
    refine L_reg [0, 1, 2, 3, 10, 38] (fun K hK => ?_)
    simp [pickV, hb]
    apply hK; clear hK K
    refine L_false (by simp) ?_
    refine L_reg [0, 1, 2, 3, 10, 40] (fun K hK => ?_)
    simp
    apply hK; clear hK K
    refine L_true (by simp [h0]) ?_
    refine L_reg [8, 9] (fun K hK => ?_)
    simp
    apply hK; clear hK K
    exact L_ret ⟨.inr rfl, _, rfl, h _ (.refl _)⟩
theorem rFirst_ac (m s low high : Int) (H : AH) (Q : AV → AH → Prop) (h : Q (.tuple [.int .i64 (firstR m s low high).1, .int .i64 (firstR m s low high).2]) H) : AC Try.prog 44 [.int .i64 m, .int .i64 s, .int .i64 low, .int .i64 high] H Q :=
  AC.quiet (by simp [belB]) (fun Q h => rFirst_ac0 m s low high H Q h) Q h
theorem wrapFirst_ac (m s low high : Int) (H : AH) : AC Try.prog 6 [.int .i64 m, .int .i64 s, .int .i64 low, .int .i64 high] H fun u _ => u = .bool true := by
  refine L_body 40 Try.func6 rfl rfl ?_
  refine L_reg [0, 1, 2, 3] (fun K hK => ?_)
  simp
  apply hK; clear hK K
  refine L_reg [0, 1, 2, 3, 9, 10] (fun K hK => ?_)
  simp [okFn_low]
  refine First_ac m s low high _ _ ?_
  simp
  apply hK; clear hK K
  refine L_reg [9, 10, 11, 12] (fun K hK => ?_)
  simp [okFn_low]
  refine rFirst_ac m s low high _ _ ?_
  simp
  apply hK; clear hK K
  refine L_reg [8] (fun K hK => ?_)
  simp [pickV, okFn_low]
  refine works_ac _ _ ?_
  simp [pickV]
  apply hK; clear hK K
  exact L_ret ⟨.inr rfl, _, rfl, rfl⟩
end Go.Proofs.Ytjfmiohgkcjdnaa

/- The reference: even numbers, turns that come nearer, quotients. -/
namespace Go.Proofs.Ytjfmiohgkcjdnaa
open Go Go.Proofs.Ytjfmiohgkcjdnaa.AX

theorem OwnF.up {N : Nat} {H H1 : AH} {v : AV} {l : List AV} (h : OwnF N H v l) (hE : Ext H H1) : OwnF N H1 v l := by
  rcases h with h | ⟨r, ver, st, g1, g2, g3⟩
  · exact .inl h
  · exact .inr ⟨r, ver, st, g1, g2, hE.row g3⟩
theorem OwnF.off {N p : Nat} {H : AH} {v : AV} {l : List AV} (h : OwnF N H v l) (hp : p < N) (o : AObj) : OwnF N (H.set p o) v l := by
  rcases h with h | ⟨r, ver, st, g1, g2, g3⟩
  · exact .inl h
  · exact .inr ⟨r, ver, st, g1, g2, by rw [set_ne (by omega)]; exact g3⟩
theorem ext_set {H H1 : AH} {a b : AObj} (h : Ext (H ++ [a]) H1) : Ext (H ++ [b]) (H1.set H.length b) := by
  refine ⟨by have := h.1; simp at this ⊢; omega, fun j hj => ?_⟩
  by_cases e : j = H.length
  · subst e
    rw [get_set (h.2 _ (by simp)  |>.trans (by simp) : H1[H.length]? = some a)]
    simp
  · have h1 := h.2 j (by simp at hj ⊢; omega)
    rw [set_ne (Ne.symm e), h1]
    simp at hj
    rw [List.getElem?_append_left (by omega), List.getElem?_append_left (by omega)]
def rw3 (m s t : Int) : AObj := .row [.int .i64 m, .int .i64 s, .int .i64 t] 0 0 false
theorem rw3_get {H H1 : AH} {m s t : Int} (h : Ext (H ++ [rw3 m s t]) H1) : H1[H.length]? = some (.row [.int .i64 m, .int .i64 s, .int .i64 t] 0 0 false) := h.row (o := rw3 m s t) (by simp)
theorem pre_ext {H H1 : AH} {o : AObj} (h : Ext (H ++ [o]) H1) : Ext H H1 := (Ext.push H [o]).trans h
set_option maxRecDepth 100000 in
theorem rEvens_ac (m s : Int) (H : AH) (Q : AV → AH → Prop) (h : ∀ v H', OwnF H.length H' v ((evensR m s).map (.int .i64)) → Ext H H' → Q (.tuple [v, .int .i64 (circleE m s)]) H') : AC Try.prog 38 [.int .i64 m, .int .i64 s] H Q := by
  refine L_body 38 Try.func38 rfl rfl ?_
  refine L_reg [0, 1] (fun K hK => ?_)
  simp
  apply hK; clear hK K
  unfold evensR at h
  refine L_reg [0, 1, 6] (fun K hK => ?_)
  simp [okFn_low]
  refine rcircle_ac m s _ _ ?_
  simp
  apply hK; clear hK K
  refine L_reg [0, 1, 6, 13] (fun K hK => ?_)
  simp
  apply hK; clear hK K
  by_cases h0 : circleE m s = 0
  · simp only [h0, if_true] at h
    obtain ⟨m, s, rfl, rfl, a1, a2, a3⟩ := circleE_zero h0
    simp only [Int.toNat_natCast] at h
    refine L_false (by simp [h0]) ?_
    refine L_reg [0, 1, 7] (fun K hK => ?_)
    simp
    apply hK; clear hK K
    refine L_reg [7, 8] (fun K hK => ?_)
    simp [alloc_z zt24, newV]
    apply hK; clear hK K
    have hr0 : (H ++ [AObj.row [.int .i64 (m : Int), .int .i64 (s : Int), .int .i64 0] 0 0 false])[H.length]? = some (.row [.int .i64 m, .int .i64 s, .int .i64 0] 0 0 false) := by simp
    have hE0 : Ext (H ++ [rw3 m s 0]) (H ++ [AObj.row [.int .i64 (m : Int), .int .i64 (s : Int), .int .i64 0] 0 0 false]) := .refl _
    generalize H ++ [AObj.row [.int .i64 (m : Int), .int .i64 (s : Int), .int .i64 0] 0 0 false] = H1 at hr0 hE0 ⊢
    refine L_reg [7, 8] (fun K hK => ?_)
    simp [setT hr0]
    apply hK; clear hK K
    have hE1 : Ext (H ++ [rw3 m s 1]) (H1.set H.length (AObj.row [.int .i64 m, .int .i64 s, .int .i64 1] 0 0 false)) := ext_set hE0
    generalize H1.set H.length (AObj.row [.int .i64 m, .int .i64 s, .int .i64 1] 0 0 false) = H2 at hE1 ⊢
    have hpm := per_le m s
    refine L_block (L_loopV [7] (fun n vs H' => ∃ (k : Nat) (v : AV), n = per m s - k ∧ k ≤ per m s ∧ vs = [v] ∧ OwnF (H.length + 1) H' v ((evS m s k).map (.int .i64)) ∧ Ext (H ++ [rw3 m s ((k : Int) + 1)]) H') _ [.slice none 0 0 0 1 false] rfl ⟨0, _, rfl, by omega, rfl, .nil _ _, by simpa using hE1⟩ ?_)
    rintro n _ H3 ⟨k, v, rfl, hk, rfl, hO, hE3⟩
    have hr3 := rw3_get hE3
    have b3 := Bx.row hr3
    refine L_regQ mixed [7, 8, 23] (by kernel_rfl) (fun K hK => ?_)
    simp [okFn_low, b3.l2, b3.la]
    refine exQ_mk (fun Q hQ => rdiff_ac m s ((k : Int) + 1) a1 a2 a3 H3 Q hQ) ?_
    simp
    apply hK; clear hK K
    have hle := evS_len m s k
    refine L_dec ((k : Int) + 1 ≤ per m s) (by simp) (fun hlt => ?_) (fun hge => L_exit ?_)
    · refine L_block ?_
      have hsucc := evS_succ m s k
      have hdd := rwidths_ac m s (k + 1) a1 a2 a3 (by omega) H3
      have hk1 : ((k + 1 : Nat) : Int) = (k : Int) + 1 := by omega
      rw [hk1] at hdd
      unfold WV at hdd
      refine L_reg [7, 8, 31] (fun K hK => ?_)
      simp [okFn_low, b3.la]
      refine hdd _ (fun u H4 hO4 hE4 => ?_)
      obtain ⟨r, ver, sz, rfl⟩ := hO4.len
      simp [prs]
      apply hK; clear hK K
      have hO5 := OwnF.up hO hE4
      have hE5 := hE3.trans hE4
      have hr5 := rw3_get hE5
      have b5 := Bx.row hr5
      refine L_dec ((widthsS m s (k + 1)).length ≤ 2) (by simp; omega) (fun hd => ?_) (fun hd => ?_)
      · rw [if_pos hd] at hsucc
        obtain ⟨v', H6, happ, hO6, hE6⟩ := ownF_append hE5 el36 el36 (x := .int .i64 ((k : Int) + 1)) (m := 1) (by simpa using hO5) rfl (by simp; omega)
        refine L_reg [7, 8] (fun K hK => ?_)
        simp [b5.l2, happ]
        apply hK; clear hK K
        have hr6 := rw3_get hE6
        have b6 := Bx.row hr6
        refine L_reg [7, 8] (fun K hK => ?_)
        simp [b6.l2, setT hr6, wrap_i64 (a := (k : Int) + 1 + 1) (by omega)]
        apply hK; clear hK K
        refine ⟨per m s - (k + 1), [v'], by omega, by simp, k + 1, v', rfl, by omega, rfl, ?_, by simpa [rw3] using ext_set (b := rw3 m s ((k : Int) + 1 + 1)) hE6⟩
        rw [hsucc]
        exact OwnF.off (by simpa using hO6) (by omega) _
      · rw [if_neg hd] at hsucc
        refine L_reg [7, 8] (fun K hK => ?_)
        simp [b5.l2, setT hr5, wrap_i64 (a := (k : Int) + 1 + 1) (by omega)]
        apply hK; clear hK K
        refine ⟨per m s - (k + 1), [v], by omega, by simp, k + 1, v, rfl, by omega, rfl, ?_, by simpa [rw3] using ext_set (b := rw3 m s ((k : Int) + 1 + 1)) hE5⟩
        rw [hsucc]
        exact OwnF.off hO5 (by omega) _
    · have hk' : k = per m s := by omega
      refine L_reg [4, 5] (fun K hK => ?_)
      simp
      apply hK; clear hK K
      exact L_ret ⟨.inr rfl, _, rfl, by exact h v H3 (by rw [← hk']; exact hO.mono (by omega)) (pre_ext hE3)⟩
  · simp only [if_neg h0] at h
    refine L_true (by simp [h0]) ?_
    refine L_reg [4, 5] (fun K hK => ?_)
    simp
    apply hK; clear hK K
    exact L_ret ⟨.inr rfl, _, rfl, h _ _ (.nil _ _) (.refl _)⟩
set_option maxRecDepth 100000 in
theorem rNearer_ac (m s : Int) (H : AH) (Q : AV → AH → Prop) (h : ∀ v H', OwnF H.length H' v ((nearR m s).map (.int .i64)) → Ext H H' → Q (.tuple [v, .int .i64 (circleE m s)]) H') : AC Try.prog 40 [.int .i64 m, .int .i64 s] H Q := by
  refine L_body 46 Try.func40 rfl rfl ?_
  refine L_reg [0, 1] (fun K hK => ?_)
  simp
  apply hK; clear hK K
  unfold nearR at h
  refine L_reg [0, 1, 6] (fun K hK => ?_)
  simp [okFn_low]
  refine rcircle_ac m s _ _ ?_
  simp
  apply hK; clear hK K
  refine L_reg [0, 1, 6, 16] (fun K hK => ?_)
  simp
  apply hK; clear hK K
  by_cases h0 : circleE m s = 0
  · simp only [h0, if_true] at h
    obtain ⟨m, s, rfl, rfl, a1, a2, a3⟩ := circleE_zero h0
    simp only [Int.toNat_natCast] at h
    refine L_false (by simp [h0]) ?_
    refine L_reg [0, 7] (fun K hK => ?_)
    simp [alloc_z zt24, newV]
    apply hK; clear hK K
    obtain ⟨H1, e, hE, hl1, r1, b⟩ := box3 H m s 0
    rw [e]
    refine L_reg [0, 7, 8] (fun K hK => ?_)
    simp
    apply hK; clear hK K
    refine L_reg [0, 7, 8, 9] (fun K hK => ?_)
    simp
    apply hK; clear hK K
    refine L_reg [0, 7, 8, 9, 10] (fun K hK => ?_)
    simp
    apply hK; clear hK K
    have hpm := per_le m s
    refine L_block (L_loopV [8, 9, 10] (fun n vs H' => ∃ (k : Nat) (v : AV), n = per m s - k ∧ k ≤ per m s ∧ vs = [v, .int .i64 (nrS m s k).2, .int .i64 ((k : Int) + 1)] ∧ OwnF H1.length H' v ((nrS m s k).1.map (.int .i64)) ∧ Ext H1 H') _ [.slice none 0 0 0 1 false, .int .i64 (m : Nat), .int .i64 1] rfl ⟨0, _, rfl, by omega, rfl, .nil _ _, .refl _⟩ ?_)
    rintro n _ H2 ⟨k, v, rfl, hk, rfl, hO, hE2⟩
    have b2 := b.ext hE2
    refine L_reg [0, 7, 8, 9, 10, 25] (fun K hK => ?_)
    simp [okFn_low, b2.la]
    refine rdiff_ac m s 0 a1 a2 a3 _ _ ?_
    simp
    apply hK; clear hK K
    have hle := nrS_le (m := m) (s := s) k
    refine L_dec ((k : Int) + 1 ≤ per m s) (by simp) (fun hlt => ?_) (fun hge => L_exit ?_)
    · refine L_block ?_
      have hsucc : nrS m s (k + 1) = if distN m s (k + 1) < (nrS m s k).2 then ((nrS m s k).1 ++ [((k + 1 : Nat) : Int)], distN m s (k + 1)) else nrS m s k := rfl
      have hks := bound (k := k + 1) a2 a3 (Nat.le_refl _) (by omega)
      have hk1 : ((k + 1 : Nat) : Int) = (k : Int) + 1 := by omega
      have hdd := rmark_ac m s (k + 1) 0 (by omega) (by omega) H2
      have hml2 : (k + 1) * s % m < m := Nat.mod_lt _ (by omega)
      unfold distN at hsucc
      rw [hk1] at hdd hsucc
      generalize hw2 : (k + 1) * s % m = w2 at *
      have e3 : min (w2 : Int) ((m : Int) - w2) = ((min w2 (m - w2) : Nat) : Int) := by omega
      generalize min w2 (m - w2) = d at hsucc e3
      generalize hnr : nrS m s k = nn at hO hle hsucc
      obtain ⟨L, nr⟩ := nn
      simp only at hO hle hsucc
      refine L_regQ mixed [0, 7, 8, 9, 10, 11] (by kernel_rfl) (fun K hK => ?_)
      simp [okFn_low, b2.la]
      refine exQ_mk (fun Q hQ => hdd Q hQ) ?_
      simp [okFn_low, b2.la]
      refine exQ_mk (fun Q hQ => hdd Q hQ) ?_
      simp [wrap_i64 (a := (m : Int) - w2) (by omega), e3]
      apply hK; clear hK K
      refine L_reg [0, 7, 8, 9, 10, 11, 39] (fun K hK => ?_)
      simp
      apply hK; clear hK K
      refine L_dec (d < nr) (by simp) (fun hd => ?_) (fun hd => ?_)
      · rw [if_pos hd] at hsucc
        obtain ⟨v', H3, happ, hO3, hE3⟩ := ownF_append hE2 el36 el36 (x := .int .i64 ((k : Int) + 1)) (m := 1) hO rfl (by simp; omega)
        refine L_reg [0, 7, 8, 10, 11] (fun K hK => ?_)
        simp [happ]
        apply hK; clear hK K
        refine L_reg [0, 7, 8, 9, 10] (fun K hK => ?_)
        simp
        apply hK; clear hK K
        refine L_reg [0, 7, 8, 9, 10] (fun K hK => ?_)
        simp [wrap_i64 (a := (k : Int) + 1 + 1) (by omega)]
        apply hK; clear hK K
        refine ⟨per m s - (k + 1), [v', .int .i64 d, .int .i64 ((k : Int) + 1 + 1)], by omega, by simp, k + 1, v', rfl, by omega, by rw [hsucc]; simp, by rw [hsucc]; simpa using hO3, hE3⟩
      · rw [if_neg hd] at hsucc
        refine L_reg [0, 7, 8, 9, 10] (fun K hK => ?_)
        simp [wrap_i64 (a := (k : Int) + 1 + 1) (by omega)]
        apply hK; clear hK K
        refine ⟨per m s - (k + 1), [v, .int .i64 nr, .int .i64 ((k : Int) + 1 + 1)], by omega, by simp, k + 1, v, rfl, by omega, by rw [hsucc]; simp, by rw [hsucc]; exact hO, hE2⟩
    · have hk' : k = per m s := by omega
      refine L_reg [4, 5] (fun K hK => ?_)
      simp
      apply hK; clear hK K
      exact L_ret ⟨.inr rfl, _, rfl, by exact h v H2 (by rw [← hk']; exact hO.mono (by omega)) (hE.trans hE2)⟩
  · simp only [if_neg h0] at h
    refine L_true (by simp [h0]) ?_
    refine L_reg [4, 5] (fun K hK => ?_)
    simp
    apply hK; clear hK K
    exact L_ret ⟨.inr rfl, _, rfl, h _ _ (.nil _ _) (.refl _)⟩
set_option maxRecDepth 100000 in
theorem rChain_ac (m s : Int) (H : AH) (Q : AV → AH → Prop) (h : ∀ v H', OwnF H.length H' v ((chainR m s).map (.int .i64)) → Ext H H' → Q (.tuple [v, .int .i64 (circleE m s)]) H') : AC Try.prog 42 [.int .i64 m, .int .i64 s] H Q := by
  refine L_body 31 Try.func42 rfl rfl ?_
  refine L_reg [0, 1] (fun K hK => ?_)
  simp
  apply hK; clear hK K
  unfold chainR at h
  refine L_reg [0, 1, 6] (fun K hK => ?_)
  simp [okFn_low]
  refine rcircle_ac m s _ _ ?_
  simp
  apply hK; clear hK K
  refine L_reg [0, 1, 6, 14] (fun K hK => ?_)
  simp
  apply hK; clear hK K
  by_cases h0 : circleE m s = 0
  · simp only [h0, if_true] at h
    obtain ⟨a, b, rfl, rfl, a1, a2, a3⟩ := circleE_zero h0
    simp only [Int.toNat_natCast] at h
    refine L_false (by simp [h0]) ?_
    refine L_reg [0, 1, 7] (fun K hK => ?_)
    simp
    apply hK; clear hK K
    refine L_reg [7, 8, 9] (fun K hK => ?_)
    simp
    apply hK; clear hK K
    refine L_block (L_loopV [7, 8, 9] (fun k vs H' => ∃ (x y : Nat) (v : AV) (d : List Int), k = y ∧ x ≤ 1000 ∧ y ≤ 1000 ∧ d.length + y ≤ 1000 ∧ d ++ quos x y = quos a b ∧ vs = [v, .int .i64 x, .int .i64 y] ∧ OwnF H.length H' v (d.map (.int .i64)) ∧ Ext H H') _ [.slice none 0 0 0 1 false, .int .i64 a, .int .i64 b] rfl ⟨a, b, _, [], rfl, by omega, by omega, by simp; omega, rfl, rfl, .nil _ _, .refl _⟩ ?_)
    rintro k _ H1 ⟨x, y, v, d, rfl, hx, hy, hd, hq, rfl, hO, hE⟩
    refine L_reg [7, 8, 9, 19] (fun K hK => ?_)
    simp
    apply hK; clear hK K
    by_cases hy0 : k = 0
    · subst hy0
      refine L_false (by simp) (L_exit ?_)
      refine L_reg [4, 5] (fun K hK => ?_)
      simp
      apply hK; clear hK K
      have hq' : d = quos a b := by rw [← hq, quos_zero]; simp
      exact L_ret ⟨.inr rfl, _, rfl, by exact h v H1 (by rw [← hq']; exact hO) hE⟩
    · refine L_true (by simp; omega) ?_
      refine L_block ?_
      have hq2 := quos_pos x hy0
      have hdiv : ((x : Int)).tdiv k = ((x / k : Nat) : Int) := by rw [Int.tdiv_eq_ediv_of_nonneg (by omega)]; rfl
      have hmod : ((x : Int)).tmod k = ((x % k : Nat) : Int) := by rw [Int.tmod_eq_emod_of_nonneg (by omega)]; rfl
      have hq0 : x / k ≤ x := Nat.div_le_self _ _
      have hr0 : x % k < k := Nat.mod_lt _ (by omega)
      generalize x / k = q at hq2 hdiv hq0
      generalize x % k = r at hq2 hmod hr0
      obtain ⟨v', H', he, hO', hE'⟩ := ownF_append hE el36 el36 (x := .int .i64 (q : Int)) (m := 1) hO rfl (by simp; omega)
      refine L_reg [7, 8, 9] (fun K hK => ?_)
      simp [hy0, hdiv, wrap_i64 (a := (q : Int)) (by omega), he]
      apply hK; clear hK K
      refine L_regT mixed [7, 8, 9] (by kernel_rfl) (fun K hK => ?_)
      simp [hy0, hmod]
      apply hK; clear hK K
      refine ⟨r, _, by omega, by simp, k, r, v', d ++ [(q : Int)], rfl, hy, by omega, by simp; omega, ?_, rfl, by simpa using hO', hE'⟩
      rw [List.append_assoc, ← hq, hq2]; rfl
  · simp only [if_neg h0] at h
    refine L_true (by simp [h0]) ?_
    refine L_reg [4, 5] (fun K hK => ?_)
    simp
    apply hK; clear hK K
    exact L_ret ⟨.inr rfl, _, rfl, h _ _ (.nil _ _) (.refl _)⟩
end Go.Proofs.Ytjfmiohgkcjdnaa

/- Lists of pairs compared; what the reference answers; WrapEvens and WrapGaps, walked. -/
namespace Go.Proofs.Ytjfmiohgkcjdnaa
open Go Go.Proofs.Ytjfmiohgkcjdnaa.AX

theorem eq57 (a b c d : Int) : eqV Try.prog 4 57 (.agg [.int .i64 a, .int .i64 b]) (.agg [.int .i64 c, .int .i64 d]) = some (a == c && b == d) := by
  have h : eqV Try.prog 4 57 (.agg [.int .i64 a, .int .i64 b]) (.agg [.int .i64 c, .int .i64 d]) = (match (if IntKind.i64 = IntKind.i64 then some (a == c) else none) with | some true => (match (if IntKind.i64 = IntKind.i64 then some (b == d) else none) with | some true => some true | some false => some false | none => none) | some false => some false | none => none) := by kernel_rfl
  rw [h, if_pos rfl, if_pos rfl]
  cases a == c <;> cases b == d <;> rfl
theorem eg57 : Try.prog.eqGuardType Try.prog.depth 57 = false := by kernel_rfl
@[simp] theorem neq57 (l : Bool) (a b c d : Int) : binV Try.prog .neq 57 l (.agg [.int .i64 a, .int .i64 b]) (.agg [.int .i64 c, .int .i64 d]) = some (.bool (!(a == c && b == d))) := by
  have : aEqA Try.prog .neq 57 (.agg [.int .i64 a, .int .i64 b]) (.agg [.int .i64 c, .int .i64 d]) = some (.bool (!(a == c && b == d))) := by
    simp [aEqA, eq57]
  have h1 : aBin .neq (.agg [.int .i64 a, .int .i64 b]) (.agg [.int .i64 c, .int .i64 d]) = none := rfl
  have h2 : aCmp Try.prog .neq 57 l (.agg [.int .i64 a, .int .i64 b]) (.agg [.int .i64 c, .int .i64 d]) = none := by kernel_rfl
  unfold binV
  rw [h1]
  dsimp only
  rw [h2]
  exact this
theorem ag57 : aggSz Try.prog 57 = some 2 := by kernel_rfl
@[simp] theorem ld57 (H : AH) (r off ver : Nat) : loadV Try.prog 57 H (.ptr r off ver) = (ldn H r ver 2 off).map .agg := load_agg ag57 ..
@[simp] theorem ixa40 (r off len ver : Nat) (full : Bool) (k : IntKind) (i : Int) : aIndexAddr Try.prog 40 (.slice (some r) off len ver 2 full) (.int k i) = if 0 ≤ i ∧ i < len then some (.ptr r (off + i.toNat * 2) ver) else none := ixa_sl (by kernel_rfl) ..
theorem pairs_ac (u v : AV) (l m : List (Nat × Nat)) (H : AH) (Q : AV → AH → Prop) (hlen : l.length ≤ 1000000) (hu : Rs 2 H u (prs l)) (hv : Rs 2 H v (prs m)) (h : Q (.bool (decide (l = m))) H) : AC Try.prog 36 [u, v] H Q := by
  obtain ⟨r, off, ver, sz, full, rfl, hld⟩ := hu
  obtain ⟨r2, off2, ver2, sz2, full2, rfl, hld2⟩ := hv
  have hpl : (prs l).length = l.length := by simp [prs]
  have hpm : (prs m).length = m.length := by simp [prs]
  have hg : ∀ (q : List (Nat × Nat)) i (h : i < (prs q).length), (prs q)[i] = [.int .i64 ((q.getD i (0, 0)).1 : Nat), .int .i64 ((q.getD i (0, 0)).2 : Nat)] := fun q i h => by
    have h' : i < q.length := by simpa [prs] using h
    simp [prs, List.getD_eq_getElem?_getD, h']
  refine L_body 26 Try.func36 rfl rfl ?_
  refine L_reg [0, 1] (fun K hK => ?_)
  simp
  apply hK; clear hK K
  refine L_reg [0, 1, 10] (fun K hK => ?_)
  simp [hpl, hpm]
  apply hK; clear hK K
  refine L_split rfl (fun hne => ?_) (fun he => ?_)
  · have hd : l ≠ m := by
      rintro rfl
      simp at hne
    rw [decide_eq_false hd] at h
    refine L_reg [4] (fun K hK => ?_)
    simp
    apply hK; clear hK K
    exact L_ret ⟨.inr rfl, _, rfl, h⟩
  have hlm : l.length = m.length := by
    have : (l.length : Int) = m.length := by simpa using he
    omega
  refine L_reg [0, 1, 5] (fun K hK => ?_)
  simp
  apply hK; clear hK K
  refine L_block (L_loopV [5] (fun k vs H' => ∃ i : Nat, k = l.length - i ∧ i ≤ l.length ∧ (∀ j, j < i → l[j]? = m[j]?) ∧ vs = [.int .i64 i] ∧ H = H') _ [.int .i64 (0 : Nat)] rfl ⟨0, rfl, by omega, fun j hj => by omega, rfl, rfl⟩ ?_)
  rintro k _ _ ⟨i, rfl, hi, hsame, rfl, rfl⟩
  refine L_reg [0, 1, 5, 14] (fun K hK => ?_)
  simp
  apply hK; clear hK K
  refine L_dec (i < l.length) (by simp) (fun hlt => ?_) (fun hge => L_exit ?_)
  · obtain ⟨r', rfl, rfl, hrd⟩ := hld i (by omega)
    have hlt2 : i < m.length := by omega
    obtain ⟨r3, rfl, rfl, hrd2⟩ := hld2 i (by omega)
    rw [hg] at hrd hrd2
    have e1 : l[i]? = some (l.getD i (0, 0)) := by simp [List.getD_eq_getElem?_getD, hlt]
    have e2 : m[i]? = some (m.getD i (0, 0)) := by simp [List.getD_eq_getElem?_getD, hlt2]
    generalize l.getD i (0, 0) = x at hrd e1
    generalize m.getD i (0, 0) = y at hrd2 e2
    refine L_block ?_
    refine L_regQ mixed [0, 1, 5, 25] (by kernel_rfl) (fun K hK => ?_)
    simp [hlt, hlt2, hrd, hrd2]
    apply hK; clear hK K
    by_cases hxy : x = y
    · subst hxy
      refine L_false (by simp) ?_
      refine L_reg [0, 1, 5] (fun K hK => ?_)
      simp [wrap_i64 (a := (i : Int) + 1) (by omega)]
      apply hK; clear hK K
      refine ⟨l.length - (i + 1), [.int .i64 (i + 1 : Nat)], by omega, by simp, i + 1, rfl, by omega, fun j hj => ?_, rfl, rfl⟩
      by_cases e : j = i
      · subst e; rw [e1, e2]
      · exact hsame j (by omega)
    · have hd : l ≠ m := by
        rintro rfl
        rw [e1] at e2
        exact hxy (Option.some.inj e2)
      refine L_true ?_ ?_
      · simp
        by_cases h1 : x.1 = y.1
        · exact .inr fun h2 => hxy (Prod.ext h1 (by omega))
        · exact .inl (by omega)
      rw [decide_eq_false hd] at h
      refine L_reg [4] (fun K hK => ?_)
      simp
      apply hK; clear hK K
      exact L_ret ⟨.inr rfl, _, rfl, h⟩
  · have hd : l = m := by
      apply List.ext_getElem?
      intro j
      by_cases hj : j < l.length
      · exact hsame j (by omega)
      · rw [List.getElem?_eq_none (by omega), List.getElem?_eq_none (by omega)]
    rw [decide_eq_true hd] at h
    refine L_reg [4] (fun K hK => ?_)
    simp
    apply hK; clear hK K
    exact L_ret ⟨.inr rfl, _, rfl, h⟩
theorem evensR_len (m s : Int) : (evensR m s).length ≤ 100 := by
  unfold evensR
  split
  · rename_i h
    obtain ⟨m, s, rfl, rfl, a1, a2, a3⟩ := circleE_zero h
    have := evS_len m s (per m s)
    have := per_le m s
    simp only [Int.toNat_natCast]; omega
  · simp
theorem nearR_len (m s : Int) : (nearR m s).length ≤ 100 := by
  unfold nearR
  split
  · rename_i h
    obtain ⟨m, s, rfl, rfl, a1, a2, a3⟩ := circleE_zero h
    have := (nrS_le (m := m) (s := s) (per m s)).1
    have := per_le m s
    simp only [Int.toNat_natCast]; omega
  · simp
theorem chainR_len (m s : Int) : (chainR m s).length ≤ 100 := by
  unfold chainR
  split
  · rename_i h
    obtain ⟨m, s, rfl, rfl, a1, a2, a3⟩ := circleE_zero h
    have := quos_len 7 m s (by omega) a3
    simp only [Int.toNat_natCast]; omega
  · simp
theorem wrapEvens_ac (m s : Int) (H : AH) : AC Try.prog 5 [.int .i64 m, .int .i64 s] H fun u _ => u = .bool true := by
  refine L_body 84 Try.func5 rfl rfl ?_
  refine L_reg [0, 1] (fun K hK => ?_)
  simp
  apply hK; clear hK K
  refine L_reg [0, 1, 5, 6] (fun K hK => ?_)
  simp [okFn_low]
  refine Evens_ac m s _ _ (fun v1 H1 hO1 hE1 => ?_)
  simp
  apply hK; clear hK K
  refine L_reg [0, 1, 5, 6, 7, 8] (fun K hK => ?_)
  simp [okFn_low]
  refine rEvens_ac m s _ _ (fun v2 H2 hO2 hE2 => ?_)
  simp
  apply hK; clear hK K
  refine L_reg [0, 1, 5, 6, 7, 8, 9, 10] (fun K hK => ?_)
  simp [okFn_low]
  refine Nearer_ac m s _ _ (fun v3 H3 hO3 hE3 => ?_)
  simp
  apply hK; clear hK K
  refine L_reg [0, 1, 5, 6, 7, 8, 9, 10, 11, 12] (fun K hK => ?_)
  simp [okFn_low]
  refine rNearer_ac m s _ _ (fun v4 H4 hO4 hE4 => ?_)
  simp
  apply hK; clear hK K
  refine L_reg [0, 1, 5, 6, 7, 8, 9, 10, 11, 12, 13, 14] (fun K hK => ?_)
  simp [okFn_low]
  refine Chain_ac m s _ _ (fun v5 H5 hO5 hE5 => ?_)
  simp
  apply hK; clear hK K
  refine L_reg [5, 6, 7, 8, 9, 10, 11, 12, 13, 14, 15, 16] (fun K hK => ?_)
  simp [okFn_low]
  refine rChain_ac m s _ _ (fun v6 H6 hO6 hE6 => ?_)
  simp
  apply hK; clear hK K
  have l1 := hO1.own.ls.ext (hE2.trans (hE3.trans (hE4.trans (hE5.trans hE6))))
  have l2 := hO2.own.ls.ext (hE3.trans (hE4.trans (hE5.trans hE6)))
  have l3 := hO3.own.ls.ext (hE4.trans (hE5.trans hE6))
  have l4 := hO4.own.ls.ext (hE5.trans hE6)
  have l5 := hO5.own.ls.ext hE6
  have l6 := hO6.own.ls
  have n1 := evensR_len m s
  have n2 := nearR_len m s
  have n3 := chainR_len m s
  refine L_reg [4] (fun K hK => ?_)
  simp [okFn_low]
  refine same_ac _ _ _ _ H6 _ (by omega) l1 l2 ?_
  simp [okFn_low, pickV]
  refine same_ac _ _ _ _ H6 _ (by omega) l3 l4 ?_
  simp [okFn_low, pickV]
  refine same_ac _ _ _ _ H6 _ (by omega) l5 l6 ?_
  simp [okFn_low, pickV]
  refine works_ac _ _ ?_
  simp [pickV]
  apply hK; clear hK K
  exact L_ret ⟨.inr rfl, _, rfl, rfl⟩
theorem rRound_ac (m s t : Int) (H : AH) (Q : AV → AH → Prop) (h : ∀ v H', OwnF H.length H' v ((roundR m s t).map (.int .i64)) → Ext H H' → Q (.tuple [v, .int .i64 (checkE m s t)]) H') : AC Try.prog 30 [WV m s t] H Q := by
  refine L_body 12 Try.func30 rfl rfl ?_
  refine L_reg [1] (fun K hK => ?_)
  simp [AV.isU, acells, WV]
  apply hK; clear hK K
  obtain ⟨H1, e, hE, -, -, b⟩ := box3 H m s t
  rw [e]
  refine L_reg [1, 4] (fun K hK => ?_)
  simp [okFn_low, b.la]
  refine rCheck_ac m s t _ _ ?_
  simp
  apply hK; clear hK K
  refine L_reg [1, 4, 8] (fun K hK => ?_)
  simp
  apply hK; clear hK K
  unfold roundR at h
  by_cases h0 : checkE m s t = 0
  · refine L_false (by simp [h0]) ?_
    rw [if_pos h0, h0] at h
    obtain ⟨m, s, t, rfl, rfl, rfl, a1, a2, a3, a4, a5⟩ := checkE_zero h0
    simp only [Int.toNat_natCast] at h
    refine L_reg [2, 3] (fun K hK => ?_)
    simp [okFn_low, b.la]
    refine rround_ac m s t a1 a2 a3 a5 _ _ (fun v H2 hO hE2 => ?_)
    simp
    apply hK; clear hK K
    exact L_ret ⟨.inr rfl, _, rfl, h v H2 (hO.mono hE.1) (hE.trans hE2)⟩
  · refine L_true (by simp [h0]) ?_
    rw [if_neg h0] at h
    refine L_reg [2, 3] (fun K hK => ?_)
    simp
    apply hK; clear hK K
    exact L_ret ⟨.inr rfl, _, rfl, h _ _ (.nil _ _) hE⟩
theorem rGaps_ac (m s t : Int) (H : AH) (Q : AV → AH → Prop) (h : ∀ v H', OwnF H.length H' v ((gapsR m s t).map (.int .i64)) → Ext H H' → Q (.tuple [v, .int .i64 (checkE m s t)]) H') : AC Try.prog 32 [WV m s t] H Q := by
  refine L_body 12 Try.func32 rfl rfl ?_
  refine L_reg [1] (fun K hK => ?_)
  simp [AV.isU, acells, WV]
  apply hK; clear hK K
  obtain ⟨H1, e, hE, -, -, b⟩ := box3 H m s t
  rw [e]
  refine L_reg [1, 4] (fun K hK => ?_)
  simp [okFn_low, b.la]
  refine rCheck_ac m s t _ _ ?_
  simp
  apply hK; clear hK K
  refine L_reg [1, 4, 8] (fun K hK => ?_)
  simp
  apply hK; clear hK K
  unfold gapsR at h
  by_cases h0 : checkE m s t = 0
  · refine L_false (by simp [h0]) ?_
    rw [if_pos h0, h0] at h
    obtain ⟨m, s, t, rfl, rfl, rfl, a1, a2, a3, a4, a5⟩ := checkE_zero h0
    simp only [Int.toNat_natCast] at h
    refine L_reg [2, 3] (fun K hK => ?_)
    simp [okFn_low, b.la]
    refine rgaps_ac m s t a1 a2 a3 a5 _ _ (fun v H2 hO hE2 => ?_)
    simp
    apply hK; clear hK K
    exact L_ret ⟨.inr rfl, _, rfl, h v H2 (hO.mono hE.1) (hE.trans hE2)⟩
  · refine L_true (by simp [h0]) ?_
    rw [if_neg h0] at h
    refine L_reg [2, 3] (fun K hK => ?_)
    simp
    apply hK; clear hK K
    exact L_ret ⟨.inr rfl, _, rfl, h _ _ (.nil _ _) hE⟩
theorem rWidths_ac (m s t : Int) (H : AH) (Q : AV → AH → Prop) (h : ∀ v H', OwnK 2 H.length H' v (prs (widthsR m s t)) → Ext H H' → Q (.tuple [v, .int .i64 (checkE m s t)]) H') : AC Try.prog 34 [WV m s t] H Q := by
  refine L_body 12 Try.func34 rfl rfl ?_
  refine L_reg [1] (fun K hK => ?_)
  simp [AV.isU, acells, WV]
  apply hK; clear hK K
  obtain ⟨H1, e, hE, -, -, b⟩ := box3 H m s t
  rw [e]
  refine L_reg [1, 4] (fun K hK => ?_)
  simp [okFn_low, b.la]
  refine rCheck_ac m s t _ _ ?_
  simp
  apply hK; clear hK K
  refine L_reg [1, 4, 8] (fun K hK => ?_)
  simp
  apply hK; clear hK K
  unfold widthsR at h
  by_cases h0 : checkE m s t = 0
  · refine L_false (by simp [h0]) ?_
    rw [if_pos h0, h0] at h
    obtain ⟨m, s, t, rfl, rfl, rfl, a1, a2, a3, a4, a5⟩ := checkE_zero h0
    simp only [Int.toNat_natCast] at h
    refine L_reg [2, 3] (fun K hK => ?_)
    simp [okFn_low, b.la]
    refine rwidths_ac m s t a1 a2 a3 a5 _ _ (fun v H2 hO hE2 => ?_)
    simp
    apply hK; clear hK K
    exact L_ret ⟨.inr rfl, _, rfl, h v H2 (⟨hO.1, hO.2.imp id fun ⟨r, ver, st, g1, g2⟩ => ⟨r, ver, st, Nat.le_trans hE.1 g1, g2⟩⟩) (hE.trans hE2)⟩
  · refine L_true (by simp [h0]) ?_
    rw [if_neg h0] at h
    refine L_reg [2, 3] (fun K hK => ?_)
    simp
    apply hK; clear hK K
    exact L_ret ⟨.inr rfl, _, rfl, h _ _ (OwnK.nil _ _ _) hE⟩
theorem roundR_len (m s t : Int) : (roundR m s t).length ≤ 100 ∧ (gapsR m s t).length ≤ 100 ∧ (widthsR m s t).length ≤ 101 := by
  unfold roundR gapsR widthsR
  by_cases h : checkE m s t = 0
  · rw [if_pos h, if_pos h, if_pos h]
    obtain ⟨m, s, t, rfl, rfl, rfl, a1, a2, a3, a4, a5⟩ := checkE_zero h
    have := per_le m s
    simp only [Int.toNat_natCast]
    rw [roundS_len (by omega) a5, gapsS_len (by omega) a5]
    exact ⟨by omega, by omega, widN_le _ _⟩
  · rw [if_neg h, if_neg h, if_neg h]; simp
theorem wrapGaps_ac (m s t : Int) (H : AH) : AC Try.prog 4 [WV m s t] H fun u _ => u = .bool true := by
  refine L_body 78 Try.func4 rfl rfl ?_
  refine L_reg [1] (fun K hK => ?_)
  simp [AV.isU, acells, WV]
  apply hK; clear hK K
  obtain ⟨H1, e, hE, hl1, r1, b⟩ := box3 H m s t
  rw [e]
  refine L_reg [1, 3] (fun K hK => ?_)
  simp [b.la, alloc_z zt24, newV]
  apply hK; clear hK K
  obtain ⟨H2, e2, hE2, hl2, r2, c⟩ := box3 H1 m s t
  rw [e2]
  have b2 := b.ext hE2
  generalize H.length = p at *
  generalize H1.length = q at *
  clear hl1 r1 hl2 r2 hE2 hE e e2 b
  clear H1
  have c2 := c
  refine L_reg [1, 3, 4, 5] (fun K hK => ?_)
  simp [okFn_low, b2.la]
  refine Round_ac m s t _ _ (fun v0 H3 hO0 hE3 => ?_)
  simp
  apply hK; clear hK K
  have b3 := b2.ext hE3
  have c3 := c2.ext hE3
  refine L_reg [1, 3, 4, 5, 6, 7] (fun K hK => ?_)
  simp [okFn_low, c3.la]
  refine rRound_ac m s t _ _ (fun v1 H4 hO1 hE4 => ?_)
  simp
  apply hK; clear hK K
  have b4 := b3.ext hE4
  have c4 := c3.ext hE4
  refine L_reg [1, 3, 4, 5, 6, 7, 8, 9] (fun K hK => ?_)
  simp [okFn_low, b4.la]
  refine Gaps_ac m s t _ _ (fun v2 H5 hO2 hE5 => ?_)
  simp
  apply hK; clear hK K
  have b5 := b4.ext hE5
  have c5 := c4.ext hE5
  refine L_reg [1, 3, 4, 5, 6, 7, 8, 9, 10, 11] (fun K hK => ?_)
  simp [okFn_low, c5.la]
  refine rGaps_ac m s t _ _ (fun v3 H6 hO3 hE6 => ?_)
  simp
  apply hK; clear hK K
  have b6 := b5.ext hE6
  have c6 := c5.ext hE6
  refine L_reg [3, 4, 5, 6, 7, 8, 9, 10, 11, 12, 13] (fun K hK => ?_)
  simp [okFn_low, b6.la]
  refine Widths_ac m s t _ _ (fun v4 H7 hO4 hE7 => ?_)
  simp
  apply hK; clear hK K
  have b7 := b6.ext hE7
  have c7 := c6.ext hE7
  refine L_reg [4, 5, 6, 7, 8, 9, 10, 11, 12, 13, 14, 15] (fun K hK => ?_)
  simp [okFn_low, c7.la]
  refine rWidths_ac m s t _ _ (fun v5 H8 hO5 hE8 => ?_)
  simp
  apply hK; clear hK K
  have b8 := b7.ext hE8
  have c8 := c7.ext hE8
  have l0 := hO0.own.ls.ext (hE4.trans (hE5.trans (hE6.trans (hE7.trans hE8))))
  have l1 := hO1.own.ls.ext (hE5.trans (hE6.trans (hE7.trans hE8)))
  have l2 := hO2.own.ls.ext (hE6.trans (hE7.trans hE8))
  have l3 := hO3.own.ls.ext (hE7.trans hE8)
  have l4 := hO4.rs.ext hE8
  have l5 := hO5.rs
  obtain ⟨n1, n2, n3⟩ := roundR_len m s t
  refine L_reg [2] (fun K hK => ?_)
  simp [okFn_low]
  refine same_ac _ _ _ _ H8 _ (by omega) l0 l1 ?_
  simp [okFn_low, pickV]
  refine same_ac _ _ _ _ H8 _ (by omega) l2 l3 ?_
  simp [okFn_low, pickV]
  refine pairs_ac _ _ _ _ H8 _ (by omega) l4 l5 ?_
  simp [okFn_low, pickV]
  refine works_ac _ _ ?_
  simp [pickV]
  apply hK; clear hK K
  exact L_ret ⟨.inr rfl, _, rfl, rfl⟩
end Go.Proofs.Ytjfmiohgkcjdnaa

/- The reference: turns beside; WrapTurns, walked. -/
namespace Go.Proofs.Ytjfmiohgkcjdnaa
open Go Go.Proofs.Ytjfmiohgkcjdnaa.AX

theorem round_get {m s t i : Nat} (hm : 0 < m) (ht : t ≤ per m s) (hi : i < t) : ∃ y : Nat, y < t ∧ (roundS m s t)[i]? = some (y : Int) := by
  have hl := roundS_len hm ht
  obtain ⟨k, hk, e⟩ := (mem_roundS hm ht).1 (List.getElem_mem (l := roundS m s t) (n := i) (by omega))
  exact ⟨k, hk, by rw [List.getElem?_eq_getElem (by omega), e]⟩
theorem round_inj {m s t i j : Nat} {k : Int} (hm : 0 < m) (ht : t ≤ per m s) (hi : (roundS m s t)[i]? = some k) (hj : (roundS m s t)[j]? = some k) : i = j := by
  have hl := roundS_len hm ht
  obtain ⟨hi1, hi2⟩ := List.getElem?_eq_some_iff.1 hi
  obtain ⟨hj1, hj2⟩ := List.getElem?_eq_some_iff.1 hj
  have e : mkR m s t i = mkR m s t j := by rw [mkR_get hi1, mkR_get hj1, hi2, hj2]
  rcases Nat.lt_trichotomy i j with h | h | h
  · have := mkR_lt hm ht h (by omega); omega
  · exact h
  · have := mkR_lt hm ht h (by omega); omega
theorem rbeside_ac0 (m s t k p i : Nat) (y : Int) (h1 : 1 ≤ m) (h2 : m ≤ 100) (h3 : s < m) (h5 : t ≤ per m s) (hi : i < t) (hp : p ≤ 1000) (hk : (roundS m s t)[i]? = some (k : Int)) (hy : (roundS m s t)[(i + p) % t]? = some y) (H : AH) (Q : AV → AH → Prop) (h : ∀ H', Ext H H' → Q (.int .i64 y) H') : AC Try.prog 70 [WV m s t, .int .i64 k, .int .i64 p] H Q := by
  refine L_body 32 Try.func70 rfl rfl ?_
  refine L_reg [1, 2, 3] (fun K hK => ?_)
  simp [AV.isU, acells, WV]
  apply hK; clear hK K
  obtain ⟨H1, e, hE, -, -, b⟩ := box3 H m s t
  rw [e]
  refine L_reg [1, 2, 7] (fun K hK => ?_)
  simp [okFn_low, b.la]
  refine rround_ac m s t h1 h2 h3 h5 _ _ (fun v H2 hO hE2 => ?_)
  simp
  apply hK; clear hK K
  have hinj := fun j (hj : (roundS m s t)[j]? = some (k : Int)) => round_inj (by omega) h5 hj hk
  have hpm := per_le m s
  have hl := roundS_len (show 0 < m by omega) h5
  have hLs : Ls H2 v (roundS m s t) := hO.own.ls
  clear hO
  generalize roundS m s t = L at *
  refine L_reg [1, 2, 7, 8] (fun K hK => ?_)
  simp
  apply hK; clear hK K
  obtain ⟨r, off, ver, sz, full, rfl, hld⟩ := hLs
  refine L_block (L_loopV [8] (fun n vs H' => ∃ j : Nat, n = i - j ∧ j ≤ i ∧ vs = [.int .i64 j] ∧ H2 = H') _ [.int .i64 0] rfl ⟨0, rfl, by omega, rfl, rfl⟩ ?_)
  rintro n _ _ ⟨j, rfl, hj, rfl, rfl⟩
  refine L_reg [1, 2, 7, 8, 14] (fun K hK => ?_)
  simp [hl]
  apply hK; clear hK K
  refine L_true (by simp; omega) ?_
  refine L_block ?_
  obtain ⟨r', rfl, rfl, hrd⟩ := hld j (by omega)
  have hne : t ≠ 0 := by omega
  by_cases hji : j = i
  · subst hji
    have ek : L[j] = (k : Int) := by rw [List.getElem?_eq_getElem (by omega)] at hk; exact Option.some.inj hk
    rw [ek] at hrd
    refine L_reg [1, 2, 7, 8, 22] (fun K hK => ?_)
    simp [hrd, hi]
    apply hK; clear hK K
    refine L_true (by simp) ?_
    have hlt : (j + p) % t < t := Nat.mod_lt _ (by omega)
    obtain ⟨r3, hr3, -, hrd2⟩ := hld ((j + p) % t) (by omega)
    cases hr3
    have ey : L[(j + p) % t] = y := by rw [List.getElem?_eq_getElem (by omega)] at hy; exact Option.some.inj hy
    rw [ey] at hrd2
    clear ey
    have e2 : ((j : Int) + p).tmod t = (((j + p) % t : Nat) : Int) := by
      rw [show (j : Int) + p = ((j + p : Nat) : Int) by omega, Int.tmod_eq_emod_of_nonneg (by omega)]; rfl
    generalize (j + p) % t = jj at *
    refine L_reg [6] (fun K hK => ?_)
    simp [wrap_i64 (a := (j : Int) + p) (by omega), hne, e2, hrd2, show (jj : Int) < t by omega]
    apply hK; clear hK K
    exact L_ret ⟨.inr rfl, _, rfl, h _ (hE.trans hE2)⟩
  · have ek : L[j] ≠ (k : Int) := fun e => hji (hinj j (by rw [List.getElem?_eq_getElem (by omega), e]))
    generalize L[j]'(by omega) = x at hrd ek
    refine L_reg [1, 2, 7, 8, 22] (fun K hK => ?_)
    simp [hrd, show (j : Int) < t by omega, show j < t by omega]
    apply hK; clear hK K
    refine L_false (by simp [ek]) ?_
    refine L_reg [1, 2, 7, 8] (fun K hK => ?_)
    simp [wrap_i64 (a := (j : Int) + 1) (by omega)]
    apply hK; clear hK K
    exact ⟨i - (j + 1), [.int .i64 ((j + 1 : Nat) : Int)], by omega, by simp [hl], j + 1, rfl, by omega, rfl, rfl⟩
theorem rbeside_ac (m s t k p i : Nat) (y : Int) (h1 : 1 ≤ m) (h2 : m ≤ 100) (h3 : s < m) (h5 : t ≤ per m s) (hi : i < t) (hp : p ≤ 1000) (hk : (roundS m s t)[i]? = some (k : Int)) (hy : (roundS m s t)[(i + p) % t]? = some y) (H : AH) (Q : AV → AH → Prop) (h : Q (.int .i64 y) H) : AC Try.prog 70 [WV m s t, .int .i64 k, .int .i64 p] H Q :=
  AC.quiet (belB_int _ _ _ _) (fun Q h => rbeside_ac0 m s t k p i y h1 h2 h3 h5 hi hp hk hy H Q h) Q h
theorem rNext_ac0 (m s t k : Int) (H : AH) (Q : AV → AH → Prop) (h : ∀ H', Ext H H' → Q (.tuple [.int .i64 (nextS m s t k).1, .int .i64 (nextS m s t k).2]) H') : AC Try.prog 23 [WV m s t, .int .i64 k] H Q := by
  refine L_body 20 Try.func23 rfl rfl ?_
  refine L_reg [1, 2] (fun K hK => ?_)
  simp [AV.isU, acells, WV]
  apply hK; clear hK K
  obtain ⟨H1, e, hE, -, -, b⟩ := box3 H m s t
  rw [e]
  refine L_reg [1, 2, 7] (fun K hK => ?_)
  simp [okFn_low, b.la]
  refine rMark_ac m s t k _ _ ?_
  simp
  apply hK; clear hK K
  by_cases h0 : turnE m s t k = 0
  · have hm2 : (markS m s t k).2 = 0 := by unfold markS; rw [if_pos h0]
    refine L_reg [1, 2, 7, 15] (fun K hK => ?_)
    simp
    apply hK; clear hK K
    refine L_false (by simp [hm2]) ?_
    obtain ⟨m, s, t, k, rfl, rfl, rfl, rfl, a1, a2, a3, a4, a5, a6⟩ := turnE_zero h0
    obtain ⟨i, hi, hki, -⟩ := mkR_mem (z := k) (show 0 < m by omega) a5 a6
    obtain ⟨y, hy, hyi⟩ := round_get (i := (i + 1) % t) (show 0 < m by omega) a5 (Nat.mod_lt _ (by omega))
    have hnb := nb_ahead (met := k) (show 0 < m by omega) (Nat.le_refl t) a5 hi hki hyi hy
    refine L_reg [4, 5] (fun K hK => ?_)
    simp [okFn_low, b.la]
    refine rbeside_ac m s t k 1 i y a1 a2 a3 a5 hi (by omega) hki hyi _ _ ?_
    simp
    apply hK; clear hK K
    exact L_ret ⟨.inr rfl, _, rfl, by simpa [nextS, h0, hnb] using h _ hE⟩
  · have hm2 : (markS m s t k).2 = turnE m s t k := by unfold markS; rw [if_neg h0]
    refine L_reg [1, 2, 7, 15] (fun K hK => ?_)
    simp
    apply hK; clear hK K
    refine L_true (by simp [hm2, h0]) ?_
    refine L_reg [4, 5] (fun K hK => ?_)
    simp
    apply hK; clear hK K
    exact L_ret ⟨.inr rfl, _, rfl, by simpa [nextS, h0, hm2] using h _ hE⟩
theorem rNext_ac (m s t k : Int) (H : AH) (Q : AV → AH → Prop) (h : Q (.tuple [.int .i64 (nextS m s t k).1, .int .i64 (nextS m s t k).2]) H) : AC Try.prog 23 [WV m s t, .int .i64 k] H Q :=
  AC.quiet (by simp [belB]) (fun Q h => rNext_ac0 m s t k H Q h) Q h
theorem rBefore_ac0 (m s t k : Int) (H : AH) (Q : AV → AH → Prop) (h : ∀ H', Ext H H' → Q (.tuple [.int .i64 (beforeS m s t k).1, .int .i64 (beforeS m s t k).2]) H') : AC Try.prog 25 [WV m s t, .int .i64 k] H Q := by
  refine L_body 23 Try.func25 rfl rfl ?_
  refine L_reg [1, 2] (fun K hK => ?_)
  simp [AV.isU, acells, WV]
  apply hK; clear hK K
  obtain ⟨H1, e, hE, -, -, b⟩ := box3 H m s t
  rw [e]
  refine L_reg [1, 2, 7] (fun K hK => ?_)
  simp [okFn_low, b.la]
  refine rMark_ac m s t k _ _ ?_
  simp
  apply hK; clear hK K
  by_cases h0 : turnE m s t k = 0
  · have hm2 : (markS m s t k).2 = 0 := by unfold markS; rw [if_pos h0]
    refine L_reg [1, 2, 7, 15] (fun K hK => ?_)
    simp
    apply hK; clear hK K
    refine L_false (by simp [hm2]) ?_
    obtain ⟨m, s, t, k, rfl, rfl, rfl, rfl, a1, a2, a3, a4, a5, a6⟩ := turnE_zero h0
    have hpm := per_le m s
    obtain ⟨i, hi, hki, -⟩ := mkR_mem (z := k) (show 0 < m by omega) a5 a6
    obtain ⟨y, hy, hyi⟩ := round_get (i := (i + (t - 1)) % t) (show 0 < m by omega) a5 (Nat.mod_lt _ (by omega))
    have hnb := nb_behind (met := k) (show 0 < m by omega) (Nat.le_refl t) a5 hi hki hyi hy
    have hrb := rbeside_ac m s t k (t - 1) i y a1 a2 a3 a5 hi (by omega) hki hyi
    rw [show ((t - 1 : Nat) : Int) = (t : Int) - 1 by omega] at hrb
    refine L_reg [4, 5] (fun K hK => ?_)
    simp [okFn_low, b.la, b.l2, wrap_i64 (a := (t : Int) - 1) (by omega)]
    refine hrb _ _ ?_
    simp
    apply hK; clear hK K
    exact L_ret ⟨.inr rfl, _, rfl, by simpa [beforeS, h0, hnb] using h _ hE⟩
  · have hm2 : (markS m s t k).2 = turnE m s t k := by unfold markS; rw [if_neg h0]
    refine L_reg [1, 2, 7, 15] (fun K hK => ?_)
    simp
    apply hK; clear hK K
    refine L_true (by simp [hm2, h0]) ?_
    refine L_reg [4, 5] (fun K hK => ?_)
    simp
    apply hK; clear hK K
    exact L_ret ⟨.inr rfl, _, rfl, by simpa [beforeS, h0, hm2] using h _ hE⟩
theorem rBefore_ac (m s t k : Int) (H : AH) (Q : AV → AH → Prop) (h : Q (.tuple [.int .i64 (beforeS m s t k).1, .int .i64 (beforeS m s t k).2]) H) : AC Try.prog 25 [WV m s t, .int .i64 k] H Q :=
  AC.quiet (by simp [belB]) (fun Q h => rBefore_ac0 m s t k H Q h) Q h
theorem rDivides_ac0 (m s t : Int) (H : AH) (Q : AV → AH → Prop) (h : ∀ H', Ext H H' → Q (.tuple [.int .i64 (dividesS m s t).1, .int .i64 (dividesS m s t).2.1, .int .i64 (dividesS m s t).2.2]) H') : AC Try.prog 27 [WV m s t] H Q := by
  refine L_body 37 Try.func27 rfl rfl ?_
  refine L_reg [1] (fun K hK => ?_)
  simp [AV.isU, acells, WV]
  apply hK; clear hK K
  obtain ⟨H1, e, hE, hl1, r1, b⟩ := box3 H m s t
  rw [e]
  refine L_reg [1, 5] (fun K hK => ?_)
  simp [okFn_low, b.la]
  refine rCheck_ac m s t _ _ ?_
  simp
  apply hK; clear hK K
  by_cases h0 : checkE m s t = 0
  · obtain ⟨m, s, t, rfl, rfl, rfl, a1, a2, a3, a4, a5⟩ := checkE_zero h0
    have hpm := per_le m s
    refine L_regQ mixed [1, 5, 17] (by kernel_rfl) (fun K hK => ?_)
    simp [okFn_low, b.l2, b.la, h0]
    refine exQ_mk (fun Q hQ => rdiff_ac m s t (by omega) (by omega) (by omega) H1 Q hQ) ?_
    simp [pickV]
    apply hK; clear hK K
    by_cases h1 : t = per m s
    · refine L_true (by simp [h1]) ?_
      refine L_reg [1, 5] (fun K hK => ?_)
      simp
      apply hK; clear hK K
      refine L_reg [1, 5, 19] (fun K hK => ?_)
      simp
      apply hK; clear hK K
      refine L_true (by simp) ?_
      refine L_reg [2, 3, 4] (fun K hK => ?_)
      simp
      apply hK; clear hK K
      have hd : dividesS m s t = (0, 0, 12) := by unfold dividesS; rw [if_pos h0, if_pos (by simp only [Int.toNat_natCast]; omega)]
      exact L_ret ⟨.inr rfl, _, rfl, by have h2 := h _ hE; rw [hd] at h2; exact h2⟩
    · refine L_false (by simp; omega) ?_
      refine L_reg [1, 5, 19] (fun K hK => ?_)
      simp
      apply hK; clear hK K
      refine L_false (by simp) ?_
      have hd : dividesS m s t = (((nbS m s t 1 m (t * s % m) t : Nat) : Int), ((nbS m s t 0 m (t * s % m) t : Nat) : Int), 0) := by unfold dividesS; rw [if_pos h0, if_neg (by simp only [Int.toNat_natCast]; omega)]; rfl
      have hm0 : 0 < m := by omega
      have ht2 : t + 1 ≤ per m s := by omega
      obtain ⟨i, hi, hki, -⟩ := mkR_mem (z := t) hm0 ht2 (by omega)
      obtain ⟨y, hy, hyi⟩ := round_get (i := (i + 1) % (t + 1)) hm0 ht2 (Nat.mod_lt _ (by omega))
      obtain ⟨z, hz, hzi⟩ := round_get (i := (i + (t + 1 - 1)) % (t + 1)) hm0 ht2 (Nat.mod_lt _ (by omega))
      have hyt : y < t := by
        rcases Nat.lt_or_ge y t with h | h
        · exact h
        · have : y = t := by omega
          subst this
          have := round_inj hm0 ht2 hki hyi
          by_cases h3 : i + 1 < y + 1
          · rw [Nat.mod_eq_of_lt h3] at this; omega
          · rw [show i + 1 = y + 1 by omega, Nat.mod_self] at this; omega
      have hzt : z < t := by
        rcases Nat.lt_or_ge z t with h | h
        · exact h
        · have : z = t := by omega
          subst this
          have := round_inj hm0 ht2 hki hzi
          by_cases h3 : i = 0
          · subst h3; rw [Nat.mod_eq_of_lt (by omega)] at this; omega
          · rw [show i + (z + 1 - 1) = (i - 1) + (z + 1) by omega, Nat.add_mod_right, Nat.mod_eq_of_lt (by omega)] at this; omega
      have hnb1 := nb_ahead (met := t) hm0 (Nat.le_succ t) ht2 hi hki hyi hyt
      have hnb2 := nb_behind (met := t) hm0 (Nat.le_succ t) ht2 hi hki hzi hzt
      rw [hnb1, hnb2] at hd
      simp only [Nat.add_sub_cancel] at hzi
      have hb1 := rbeside_ac m s (t + 1) t 1 i y a1 a2 a3 ht2 hi (by omega) hki hyi
      have hb2 := rbeside_ac m s (t + 1) t t i z a1 a2 a3 ht2 hi (by omega) hki hzi
      rw [show ((t + 1 : Nat) : Int) = (t : Int) + 1 by omega] at hb1 hb2
      unfold WV at hb1 hb2
      refine L_reg [1, 6] (fun K hK => ?_)
      simp [b.la, alloc_z zt24, newV]
      apply hK; clear hK K
      obtain ⟨H2, e2, hE2, hl2, r2, c⟩ := box3 H1 m s t
      rw [e2]
      have b2 := b.ext hE2
      have hne : H1.length ≠ H.length := by omega
      refine L_reg [1, 6] (fun K hK => ?_)
      simp [c.l2, setT r2, wrap_i64 (a := (t : Int) + 1) (by omega)]
      apply hK; clear hK K
      have r3 := get_set (o' := AObj.row [.int .i64 m, .int .i64 s, .int .i64 ((t : Int) + 1)] 0 0 false) r2
      have c3 := Bx.row r3
      have b3 : Bx (H2.set H1.length (AObj.row [.int .i64 m, .int .i64 s, .int .i64 ((t : Int) + 1)] 0 0 false)) H.length m s t := Bx.row (st := 0) (ro := false) (by rw [set_ne hne]; exact hE2.row r1)
      have hE3 : Ext H (H2.set H1.length (AObj.row [.int .i64 m, .int .i64 s, .int .i64 ((t : Int) + 1)] 0 0 false)) := (hE.trans hE2).set _ (by omega)
      generalize H2.set H1.length (AObj.row [.int .i64 m, .int .i64 s, .int .i64 ((t : Int) + 1)] 0 0 false) = H3 at *
      refine L_regQ mixed [2, 3, 4] (by kernel_rfl) (fun K hK => ?_)
      simp [okFn_low, c3.la, c3.l2, b3.l2, wrap_i64 (a := (t : Int)) (by omega)]
      refine exQ_mk (fun Q hQ => hb2 H3 Q hQ) ?_
      simp [okFn_low, c3.la, b3.l2]
      refine exQ_mk (fun Q hQ => hb1 H3 Q hQ) ?_
      simp
      apply hK; clear hK K
      exact L_ret ⟨.inr rfl, _, rfl, by have h2 := h _ hE3; rw [hd] at h2; exact h2⟩
  · have hb : (checkE m s t == 0) = false := by simpa using h0
    refine L_regQ mixed [1, 5, 17] (by kernel_rfl) (fun K hK => ?_)
    simp [pickV, hb]
    apply hK; clear hK K
    refine L_false (by simp) ?_
    refine L_reg [1, 5, 19] (fun K hK => ?_)
    simp
    apply hK; clear hK K
    refine L_true (by simp [h0]) ?_
    refine L_reg [2, 3, 4] (fun K hK => ?_)
    simp
    apply hK; clear hK K
    have hd : dividesS m s t = (0, 0, checkE m s t) := by unfold dividesS; rw [if_neg h0]
    exact L_ret ⟨.inr rfl, _, rfl, by have h2 := h _ hE; rw [hd] at h2; exact h2⟩
theorem rDivides_ac (m s t : Int) (H : AH) (Q : AV → AH → Prop) (h : Q (.tuple [.int .i64 (dividesS m s t).1, .int .i64 (dividesS m s t).2.1, .int .i64 (dividesS m s t).2.2]) H) : AC Try.prog 27 [WV m s t] H Q :=
  AC.quiet (by simp [belB]) (fun Q h => rDivides_ac0 m s t H Q h) Q h
set_option maxHeartbeats 800000 in
theorem wrapTurns_ac (m s t k w : Int) (H : AH) : AC Try.prog 3 [WV m s t, .int .i64 k, .int .i64 w] H fun u _ => u = .bool true := by
  refine L_body 144 Try.func3 rfl rfl ?_
  refine L_reg [1, 2, 3] (fun K hK => ?_)
  simp [AV.isU, acells, WV]
  apply hK; clear hK K
  obtain ⟨H1, e, hE, hl1, r1, b⟩ := box3 H m s t
  rw [e]
  refine L_reg [1, 2, 3, 7] (fun K hK => ?_)
  simp [b.la, alloc_z zt24, newV]
  apply hK; clear hK K
  obtain ⟨H2, e2, hE2, hl2, r2, c⟩ := box3 H1 m s t
  rw [e2]
  have b2 := b.ext hE2
  generalize H.length = p at *
  generalize H1.length = q at *
  clear hl1 r1 hl2 r2 hE2 hE e e2 b H1
  refine L_reg [1, 2, 3, 7, 8, 9] (fun K hK => ?_)
  simp [okFn_low, b2.la]
  refine Mark_ac m s t k _ _ ?_
  simp
  apply hK; clear hK K
  refine L_reg [1, 2, 3, 7, 8, 9, 10, 11] (fun K hK => ?_)
  simp [okFn_low, c.la]
  refine rMark_ac m s t k _ _ ?_
  simp
  apply hK; clear hK K
  refine L_reg [1, 2, 3, 7, 8, 9, 10, 11, 12, 13] (fun K hK => ?_)
  simp [okFn_low, b2.la]
  refine Which_ac m s t w _ _ ?_
  simp
  apply hK; clear hK K
  refine L_reg [1, 3, 7, 8, 9, 10, 11, 12, 13, 14, 15] (fun K hK => ?_)
  simp [okFn_low, c.la]
  refine rWhich_ac m s t w _ _ ?_
  simp
  apply hK; clear hK K
  refine L_regQ mixed [1, 3, 7, 71] (by kernel_rfl) (fun K hK => ?_)
  simp [okFn_low, pickV, b2.la]
  refine exQ_mk (fun Q hQ => Check_ac m s t H2 Q hQ) ?_
  simp [okFn_low, c.la]
  refine exQ_mk (fun Q hQ => rCheck_ac m s t H2 Q hQ) ?_
  simp [pickV]
  apply hK; clear hK K
  refine L_false (by simp) ?_
  refine L_reg [1, 3, 7, 8, 9] (fun K hK => ?_)
  simp [okFn_low, b2.la]
  refine Next_ac m s t k _ _ ?_
  simp
  apply hK; clear hK K
  refine L_reg [1, 3, 7, 8, 9, 10, 11] (fun K hK => ?_)
  simp [okFn_low, c.la]
  refine rNext_ac m s t k _ _ ?_
  simp
  apply hK; clear hK K
  refine L_reg [1, 3, 7, 8, 9, 10, 11, 12, 13] (fun K hK => ?_)
  simp [okFn_low, b2.la]
  refine Before_ac m s t k _ _ ?_
  simp
  apply hK; clear hK K
  refine L_reg [3, 7, 8, 9, 10, 11, 12, 13, 14, 15] (fun K hK => ?_)
  simp [okFn_low, c.la]
  refine rBefore_ac m s t k _ _ ?_
  simp
  apply hK; clear hK K
  refine L_reg [7, 8, 9, 10, 11, 12, 13, 14, 15, 16, 17, 18] (fun K hK => ?_)
  simp [okFn_low, b2.la]
  refine Divides_ac m s t _ _ ?_
  simp
  apply hK; clear hK K
  refine L_reg [8, 9, 10, 11, 12, 13, 14, 15, 16, 17, 18, 19, 20, 21] (fun K hK => ?_)
  simp [okFn_low, c.la]
  refine rDivides_ac m s t _ _ ?_
  simp
  apply hK; clear hK K
  refine L_reg [6] (fun K hK => ?_)
  simp [okFn_low, pickV]
  refine works_ac _ _ ?_
  simp [pickV]
  apply hK; clear hK K
  exact L_ret ⟨.inr rfl, _, rfl, rfl⟩
theorem wrapper_int {n : List Int} (e : n.length = 3) : ∃ x y z, n = [x, y, z] := by
  match n, e with
  | [x, y, z], _ => exact ⟨x, y, z, rfl⟩
theorem wrapGaps_int (n : List Int) (e : n.length = 3) (H : AH) : AC Try.prog 4 [.agg (n.map (.int .i64))] H fun u _ => u = .bool true := by
  obtain ⟨x, y, z, rfl⟩ := wrapper_int e
  exact wrapGaps_ac x y z H
theorem wrapTurns_int (n : List Int) (e : n.length = 3) (k w : Int) (H : AH) : AC Try.prog 3 [.agg (n.map (.int .i64)), .int .i64 k, .int .i64 w] H fun u _ => u = .bool true := by
  obtain ⟨x, y, z, rfl⟩ := wrapper_int e
  exact wrapTurns_ac x y z k w H
end Go.Proofs.Ytjfmiohgkcjdnaa

/- Marks turn by turn; the first of a list; WrapMarks, walked. -/
namespace Go.Proofs.Ytjfmiohgkcjdnaa
open Go Go.Proofs.Ytjfmiohgkcjdnaa.AX

def markL (m s t : Nat) : List Int := (List.range t).map fun k => ((k * s % m : Nat) : Int)
theorem markL_len (m s t : Nat) : (markL m s t).length = t := by simp [markL]
theorem markL_get {m s t i : Nat} (h : i < (markL m s t).length) : (markL m s t)[i] = ((i * s % m : Nat) : Int) := by simp [markL]
theorem markL_succ (m s t : Nat) : markL m s (t + 1) = markL m s t ++ [((t * s % m : Nat) : Int)] := by simp [markL, List.range_succ]
theorem marks_ac (m s t : Nat) (h1 : 1 ≤ m) (h2 : m ≤ 100) (h3 : s < m) (h4 : t ≤ 1000) (H : AH) (Q : AV → AH → Prop) (h : ∀ v H', OwnF H.length H' v ((markL m s t).map (.int .i64)) → Ext H H' → Q v H') : AC Try.prog 50 [WV m s t] H Q := by
  refine L_body 22 Try.func50 rfl rfl ?_
  refine L_reg [1] (fun K hK => ?_)
  simp [AV.isU, acells, WV]
  apply hK; clear hK K
  obtain ⟨H1, e, hE, -, -, b⟩ := box3 H m s t
  rw [e]
  refine L_reg [1, 3] (fun K hK => ?_)
  simp
  apply hK; clear hK K
  refine L_reg [1, 3, 4] (fun K hK => ?_)
  simp
  apply hK; clear hK K
  refine L_reg [1, 3, 4, 6, 7] (fun K hK => ?_)
  simp [b.l2]
  apply hK; clear hK K
  refine L_block (L_loopV [3, 4, 7] (fun n vs H' => ∃ (k w : Nat) (v : AV), n = t - k ∧ k ≤ t ∧ w = k * s % m ∧ vs = [v, .int .i64 w, .int .i64 k] ∧ OwnF H1.length H' v ((markL m s k).map (.int .i64)) ∧ Ext H1 H') _ [.slice none 0 0 0 1 false, .int .i64 0, .int .i64 0] rfl ⟨0, 0, _, rfl, by omega, by simp, rfl, .nil _ _, .refl _⟩ ?_)
  rintro n _ H2 ⟨k, w, v, rfl, hk, hw, rfl, hO, hE2⟩
  have b2 := b.ext hE2
  refine L_reg [1, 3, 4, 6, 7, 8] (fun K hK => ?_)
  simp
  apply hK; clear hK K
  refine L_dec (k < t) (by simp) (fun hlt => ?_) (fun hge => L_exit ?_)
  · refine L_block ?_
    have hst := step_mark m s k
    have hsu := markL_succ m s k
    rw [← hw] at hst hsu
    have hwl : w < m := by rw [hw]; exact Nat.mod_lt _ (by omega)
    obtain ⟨v', H3, happ, hO3, hE3⟩ := ownF_append hE2 el36 el36 (x := .int .i64 (w : Int)) (m := 1) hO rfl (by simp [markL_len]; omega)
    have b3 := b.ext hE3
    have hmne : m ≠ 0 := by omega
    have e2 : ((w : Int) + s).tmod m = (((k + 1) * s % m : Nat) : Int) := by
      rw [show (w : Int) + s = ((w + s : Nat) : Int) by omega, Int.tmod_eq_emod_of_nonneg (by omega), ← hst]; rfl
    generalize hw2 : (k + 1) * s % m = w2 at e2
    refine L_reg [1, 3, 4, 6, 7] (fun K hK => ?_)
    simp [happ]
    apply hK; clear hK K
    refine L_reg [1, 3, 4, 6, 7] (fun K hK => ?_)
    simp [b3.l0, b3.l1, wrap_i64 (a := (w : Int) + s) (by omega), hmne, e2]
    apply hK; clear hK K
    refine L_reg [1, 3, 4, 6, 7] (fun K hK => ?_)
    simp [wrap_i64 (a := (k : Int) + 1) (by omega)]
    apply hK; clear hK K
    exact ⟨t - (k + 1), [v', .int .i64 w2, .int .i64 (k + 1 : Nat)], by omega, by simp, k + 1, w2, v', rfl, by omega, hw2.symm, rfl, by rw [hsu]; simpa using hO3, hE3⟩
  · have hk' : k = t := by omega
    subst hk'
    refine L_reg [2] (fun K hK => ?_)
    simp
    apply hK; clear hK K
    exact L_ret ⟨.inr rfl, _, rfl, h v H2 (hO.mono hE.1) (hE.trans hE2)⟩
theorem Index_ac (v : AV) (l : List Int) (x : Int) (H : AH) (Q : AV → AH → Prop) (hlen : l.length ≤ 1000000) (hv : Ls H v l) (h1 : ∀ i : Nat, l[i]? = some x → (∀ j, j < i → l[j]? ≠ some x) → Q (.int .i64 i) H) (h2 : x ∉ l → Q (.int .i64 (-1)) H) : AC Try.prog 52 [v, .int .i64 x] H Q := by
  obtain ⟨r, off, ver, sz, full, rfl, hld⟩ := hv
  refine L_body 19 Try.func52 rfl rfl ?_
  refine L_reg [0, 1] (fun K hK => ?_)
  simp
  apply hK; clear hK K
  refine L_reg [0, 1, 7, 8] (fun K hK => ?_)
  simp
  apply hK; clear hK K
  refine L_block (L_loopV [8] (fun n vs H' => ∃ i : Nat, n = l.length - i ∧ i ≤ l.length ∧ (∀ j, j < i → l[j]? ≠ some x) ∧ vs = [.int .i64 i] ∧ H = H') _ [.int .i64 0] rfl ⟨0, rfl, by omega, fun j hj => by omega, rfl, rfl⟩ ?_)
  rintro n _ _ ⟨i, rfl, hi, hno, rfl, rfl⟩
  refine L_reg [0, 1, 7, 8, 9] (fun K hK => ?_)
  simp
  apply hK; clear hK K
  refine L_dec (i < l.length) (by simp) (fun hlt => ?_) (fun hge => L_exit ?_)
  · refine L_block ?_
    obtain ⟨r', rfl, rfl, hrd⟩ := hld i hlt
    have eg : l[i]? = some l[i] := List.getElem?_eq_getElem hlt
    generalize l[i] = y at hrd eg
    refine L_reg [0, 1, 5, 7, 8] (fun K hK => ?_)
    simp
    apply hK; clear hK K
    refine L_reg [0, 1, 5, 7, 8, 16] (fun K hK => ?_)
    simp [hrd, hlt]
    apply hK; clear hK K
    by_cases e : x = y
    · subst e
      refine L_true (by simp) ?_
      refine L_reg [4] (fun K hK => ?_)
      simp
      apply hK; clear hK K
      exact L_ret ⟨.inr rfl, _, rfl, h1 i eg hno⟩
    · refine L_false (by simp [e]) ?_
      refine L_reg [0, 1, 7, 8] (fun K hK => ?_)
      simp [wrap_i64 (a := (i : Int) + 1) (by omega)]
      apply hK; clear hK K
      refine ⟨l.length - (i + 1), [.int .i64 (i + 1 : Nat)], by omega, by simp, i + 1, rfl, by omega, fun j hj => ?_, rfl, rfl⟩
      by_cases ej : j = i
      · subst ej; rw [eg]; intro h; exact e (Option.some.inj h).symm
      · exact hno j (by omega)
  · refine L_reg [4] (fun K hK => ?_)
    simp
    apply hK; clear hK K
    exact L_ret ⟨.inr rfl, _, rfl, h2 fun hm => by obtain ⟨j, hj, e⟩ := List.mem_iff_getElem.1 hm; exact hno j (by omega) (by rw [List.getElem?_eq_getElem hj, e])⟩
set_option maxHeartbeats 800000 in
theorem wrapMarks_ac (a b c d : Nat) (ha : a < 256) (hb : b < 256) (hc : c < 256) (hd : d < 256) (H : AH) : AC Try.prog 10 [.agg [.int .u8 a, .int .u8 b, .int .u8 c], .int .u8 d] H fun u _ => u = .bool true := by
  refine L_body 134 Try.func10 rfl rfl ?_
  obtain ⟨H1, e, hE, hl1, r1, l0, l1, l2, la⟩ := box3u H a b c
  refine L_reg [1, 2] (fun K hK => ?_)
  simp [AV.isU, acells]
  apply hK; clear hK K
  rw [e]
  have hm := mM_ok a
  have hs := mS_ok a b
  have ht := mT_ok a b c
  refine L_reg [1, 5] (fun K hK => ?_)
  simp [okFn_low, la]
  refine made_ac a b c ha hb hc _ _ ?_
  generalize mM a = m at *
  generalize mS a b = s at *
  generalize mT a b c = t at *
  simp [alloc_z zt23, newW, WV]
  apply hK; clear hK K
  obtain ⟨H2, e2, hE2, hl2, r2, bx⟩ := box3 H1 m s t
  rw [e2]
  generalize hp : H1.length = p at *
  have hm0 : 0 < m := by omega
  have hpm := per_le m s
  have hck1 : checkE m s t = 0 := checkE_ok hm.1 hm.2 hs ht.1 ht.2
  refine L_reg [1, 5, 6] (fun K hK => ?_)
  simp [okFn_low, bx.la]
  refine marks_ac m s t hm.1 hm.2 hs (by omega) _ _ (fun v1 H3 hO1 hE3 => ?_)
  simp
  apply hK; clear hK K
  have bx3 := bx.ext hE3
  refine L_reg [1, 5, 6, 7, 8] (fun K hK => ?_)
  simp [okFn_low, bx3.la]
  refine Round_ac m s t _ _ (fun v2 H4 hO2 hE4 => ?_)
  rw [hck1]
  simp
  apply hK; clear hK K
  have bx4 := bx3.ext hE4
  have G1 : roundR m s t = roundS m s t := by unfold roundR; rw [if_pos hck1]; rfl
  rw [G1] at hO2
  have hrl := roundS_len hm0 ht.2
  have hml := markL_len m s t
  have hmg := fun i => markL_get (m := m) (s := s) (t := t) (i := i)
  have hrg := fun i (hi : i < t) => round_get (i := i) hm0 ht.2 hi
  have hri := fun i j => mkR_lt (i := i) (j := j) hm0 ht.2
  have hrs := fun z j => mkR_some (m := m) (s := s) (t := t) (z := z) (j := j)
  have hL1 := hO1.own.ls.ext hE4
  have hL2 := hO2.own.ls
  have hidx := fun (y : Int) Q => Index_ac v1 (markL m s t) y H4 Q (by omega) hL1
  clear hO1 hO2
  generalize markL m s t = L at *
  generalize hR : roundS m s t = Rn at *
  obtain ⟨r1', off1, ver1, sz1, full1, rfl, hld1⟩ := hL1
  obtain ⟨r2', off2, ver2, sz2, full2, rfl, hld2⟩ := hL2
  refine L_reg [1, 5, 6, 7, 36] (fun K hK => ?_)
  simp [pickV, hml, hrl]
  apply hK; clear hK K
  refine L_false (by simp) ?_
  refine L_reg [1, 5, 6, 7, 37, 38, 39] (fun K hK => ?_)
  simp
  apply hK; clear hK K
  refine L_block (L_loopV [39] (fun n vs H' => ∃ i : Nat, n = t - i ∧ i ≤ t ∧ vs = [.int .i64 i] ∧ H4 = H') _ [.int .i64 0] rfl ⟨0, rfl, by omega, rfl, rfl⟩ ?_)
  rintro n _ _ ⟨i, rfl, hi, rfl, rfl⟩
  refine L_reg [1, 5, 6, 7, 37, 38, 39, 40] (fun K hK => ?_)
  simp
  apply hK; clear hK K
  refine L_dec (i < t) (by simp) (fun hlt => ?_) (fun hge => L_exit ?_)
  · refine L_block ?_
    obtain ⟨k, hk, hki⟩ := hrg i hlt
    obtain ⟨r', rfl, rfl, hrd⟩ := hld2 i (by omega)
    have ek : Rn[i] = (k : Int) := by rw [List.getElem?_eq_getElem (by omega)] at hki; exact Option.some.inj hki
    rw [ek] at hrd
    obtain ⟨q1, rfl, rfl, hrdm⟩ := hld1 k (by omega)
    rw [hmg] at hrdm
    have hmk := hrs k i (by rw [hki])
    refine L_reg [1, 5, 6, 7, 9, 10, 37, 38, 39] (fun K hK => ?_)
    simp [hrd, hlt]
    apply hK; clear hK K
    have htE : turnE m s t k = 0 := by rw [turnE, if_pos hck1, if_pos (by omega)]
    have hms : markS m s t k = (((k * s % m : Nat) : Int), 0) := by unfold markS; rw [if_pos htE]; rfl
    by_cases hi0 : i = 0
    · refine L_regQ mixed [1, 5, 6, 7, 10, 37, 38, 39, 70] (by kernel_rfl) (fun K hK => ?_)
      simp [pickV, show ¬ (0 < i) by omega, show ¬ ((k : Int) < 0) by omega, show ¬ ((t : Int) ≤ k) by omega]
      apply hK; clear hK K
      refine L_false (by simp) ?_
      refine L_reg [1, 5, 6, 7, 10, 11, 12, 37, 38, 39] (fun K hK => ?_)
      simp [okFn_low, bx4.la]
      refine Mark_ac m s t k _ _ ?_
      simp
      apply hK; clear hK K
      refine L_reg [1, 5, 6, 7, 37, 38, 39, 86] (fun K hK => ?_)
      simp [pickV, hms, hrdm, show (k : Int) < t by omega]
      apply hK; clear hK K
      refine L_false (by simp) ?_
      refine L_reg [1, 5, 6, 7, 37, 38, 39] (fun K hK => ?_)
      simp [wrap_i64 (a := (i : Int) + 1) (by omega)]
      apply hK; clear hK K
      exact ⟨t - (i + 1), [.int .i64 (i + 1 : Nat)], by omega, by simp, i + 1, rfl, by omega, rfl, rfl⟩
    · obtain ⟨k2, hk2, hki2⟩ := hrg (i - 1) (by omega)
      obtain ⟨q2, hq2, -, hrd2⟩ := hld2 (i - 1) (by omega)
      cases hq2
      have ek2 : Rn[i - 1] = (k2 : Int) := by rw [List.getElem?_eq_getElem (by omega)] at hki2; exact Option.some.inj hki2
      rw [ek2] at hrd2
      obtain ⟨q3, hq3, -, hrdm2⟩ := hld1 k2 (by omega)
      cases hq3
      rw [hmg] at hrdm2
      have hmk2 := hrs k2 (i - 1) (by rw [hki2])
      have hlt3 := hri (i - 1) i (by omega) hlt
      rw [hmk, hmk2] at hlt3
      generalize hx : k * s % m = x at *
      generalize hy : k2 * s % m = y at *
      refine L_regQ mixed [1, 5, 6, 7, 10, 37, 38, 39, 70] (by kernel_rfl) (fun K hK => ?_)
      simp [pickV, hk, hk2, hrdm, hrdm2, hrd2, show ¬ ((k : Int) < 0) by omega, show ¬ ((t : Int) ≤ k) by omega, wrap_i64 (a := (i : Int) - 1) (by omega), show ((i : Int) - 1).toNat = i - 1 by omega, show (1 : Int) ≤ i by omega, show (i : Int) - 1 < t by omega, show 0 < i by omega]
      apply hK; clear hK K
      refine L_false (by simp; omega) ?_
      refine L_reg [1, 5, 6, 7, 10, 11, 12, 37, 38, 39] (fun K hK => ?_)
      simp [okFn_low, bx4.la]
      refine Mark_ac m s t k _ _ ?_
      simp
      apply hK; clear hK K
      refine L_reg [1, 5, 6, 7, 37, 38, 39, 86] (fun K hK => ?_)
      simp [pickV, hms, hrdm, show (k : Int) < t by omega]
      apply hK; clear hK K
      refine L_false (by simp) ?_
      refine L_reg [1, 5, 6, 7, 37, 38, 39] (fun K hK => ?_)
      simp [wrap_i64 (a := (i : Int) + 1) (by omega)]
      apply hK; clear hK K
      exact ⟨t - (i + 1), [.int .i64 (i + 1 : Nat)], by omega, by simp, i + 1, rfl, by omega, rfl, rfl⟩
  · have hck2 : (0 : Int) < m := by omega
    have hmne : m ≠ 0 := by omega
    have e2 : ((d : Int)).tmod m = ((d % m : Nat) : Int) := tmodN d m
    have hdl : d % m < m := Nat.mod_lt _ hm0
    generalize d % m = w at e2 hdl
    refine L_reg [5, 6, 13] (fun K hK => ?_)
    simp [bx4.l0, hmne, e2, wrap_i64 (a := (d : Int)) (by omega)]
    apply hK; clear hK K
    refine L_reg [5, 6, 13, 14, 15] (fun K hK => ?_)
    simp [okFn_low, bx4.la]
    refine Which_ac m s t w _ _ ?_
    simp
    apply hK; clear hK K
    have hwS : whichS m s t w = firstS m s w w t 0 := by unfold whichS; rw [if_pos hck1, if_pos (by omega)]; rfl
    rw [firstS_at] at hwS
    refine L_reg [5, 14, 15, 16] (fun K hK => ?_)
    simp [okFn_low]
    rw [hml] at hidx
    refine hidx w _ (fun i hi1 hi2 => ?_) (fun hno => ?_)
    · obtain ⟨hi3, hi4⟩ := List.getElem?_eq_some_iff.1 hi1
      have hit : i < t := by omega
      rw [hmg] at hi4
      have hat : atS m s w t 0 = some i := by
        have := atS_mark (m := m) (s := s) (t := t) (x := i) hm0 ht.2 hit
        rw [show i * s % m = w by omega] at this
        exact this
      rw [hat] at hwS
      simp [hwS]
      apply hK; clear hK K
      refine L_reg [5, 14, 15, 16, 103] (fun K hK => ?_)
      simp
      apply hK; clear hK K
      refine L_false (by simp) ?_
      refine L_reg [14, 15, 16, 18] (fun K hK => ?_)
      simp [okFn_low, bx4.la, bx4.l2]
      refine Mark_ac m s t t _ _ ?_
      simp
      apply hK; clear hK K
      have hmE : markS m s t t = (0, 2) := by
        have : turnE m s t t = 2 := by rw [turnE, if_pos hck1, if_neg (by omega)]
        unfold markS; rw [this]; rfl
      refine L_reg [4] (fun K hK => ?_)
      simp [okFn_low, pickV, hmE]
      refine works_ac _ _ ?_
      simp [pickV]
      apply hK; clear hK K
      exact L_ret ⟨.inr rfl, _, rfl, rfl⟩
    · have hat : atS m s w t 0 = none := (atS_none t 0).2 fun x _ hx e => hno (List.mem_iff_getElem.2 ⟨x, by omega, by rw [hmg]; omega⟩)
      rw [hat] at hwS
      simp [hwS]
      apply hK; clear hK K
      refine L_reg [5, 14, 15, 16, 103] (fun K hK => ?_)
      simp
      apply hK; clear hK K
      refine L_true (by simp) ?_
      refine L_reg [4] (fun K hK => ?_)
      simp [okFn_low, pickV]
      refine works_ac _ _ ?_
      simp [pickV]
      apply hK; clear hK K
      exact L_ret ⟨.inr rfl, _, rfl, rfl⟩
theorem u8_of {a : Int} (h : (Lit.int .u8 a).wf = true) : ∃ n : Nat, a = n ∧ n < 256 := by
  have h1 : 0 ≤ a ∧ a ≤ 255 := by
    simp [Lit.wf, IntKind.min, IntKind.max, IntKind.bits, IntKind.signed] at h
    omega
  exact ⟨a.toNat, by omega, by omega⟩
theorem wrapMarks_int (n : List Int) (e : n.length = 3) (b : ∀ x ∈ n, IntKind.u8.min ≤ x ∧ x ≤ IntKind.u8.max) (d : Int) (hd : (Lit.int .u8 d).wf = true) (H : AH) : AC Try.prog 10 [.agg (n.map (.int .u8)), .int .u8 d] H fun u _ => u = .bool true := by
  obtain ⟨x, y, z, rfl, hx, hy, hz⟩ := roll_int e b
  obtain ⟨d, rfl, hd2⟩ := u8_of hd
  exact wrapMarks_ac x y z d hx hy hz hd2 H
end Go.Proofs.Ytjfmiohgkcjdnaa

/- The first that is found by a function; WrapFound, walked. -/
namespace Go.Proofs.Ytjfmiohgkcjdnaa
open Go Go.Proofs.Ytjfmiohgkcjdnaa.AX

theorem IndexFunc_ac (v : AV) (l : List Int) (f : FuncId) (caps : List AV) (p : Int → Bool) (H : AH) (Q : AV → AH → Prop) (hlen : l.length ≤ 1000000) (hv : Ls H v l) (hok : okFn Try.prog f = true) (hp : ∀ x, x ∈ l → ∀ Q : AV → AH → Prop, Q (.bool (p x)) H → AC Try.prog f (.int .i64 x :: caps) H Q) (h1 : ∀ (i : Nat) (h : i < l.length), p l[i] = true → (∀ j (h : j < l.length), j < i → p l[j] = false) → Q (.int .i64 i) H) (h2 : (∀ x ∈ l, p x = false) → Q (.int .i64 (-1)) H) : AC Try.prog 53 [v, .func (.func f) [] caps] H Q := by
  obtain ⟨r, off, ver, sz, full, rfl, hld⟩ := hv
  refine L_body 19 Try.func53 rfl rfl ?_
  refine L_reg [0, 1] (fun K hK => ?_)
  simp
  apply hK; clear hK K
  refine L_reg [0, 1, 7, 8] (fun K hK => ?_)
  simp
  apply hK; clear hK K
  refine L_block (L_loopV [8] (fun n vs H' => ∃ i : Nat, n = l.length - i ∧ i ≤ l.length ∧ (∀ j (h : j < l.length), j < i → p l[j] = false) ∧ vs = [.int .i64 i] ∧ H = H') _ [.int .i64 0] rfl ⟨0, rfl, by omega, fun j _ hj => by omega, rfl, rfl⟩ ?_)
  rintro n _ _ ⟨i, rfl, hi, hno, rfl, rfl⟩
  refine L_reg [0, 1, 7, 8, 9] (fun K hK => ?_)
  simp
  apply hK; clear hK K
  refine L_dec (i < l.length) (by simp) (fun hlt => ?_) (fun hge => L_exit ?_)
  · refine L_block ?_
    obtain ⟨r', rfl, rfl, hrd⟩ := hld i hlt
    have hpi := hp l[i] (List.getElem_mem hlt)
    have h1i := h1 i hlt
    have hnoi : p l[i] = false → ∀ j (h : j < l.length), j < i + 1 → p l[j] = false := fun hf j hj hji => by
      by_cases ej : j = i
      · subst ej; exact hf
      · exact hno j hj (by omega)
    generalize l[i] = y at hrd hpi h1i hnoi
    refine L_reg [0, 1, 5, 7, 8] (fun K hK => ?_)
    simp
    apply hK; clear hK K
    refine L_reg [0, 1, 5, 7, 8, 16] (fun K hK => ?_)
    simp [hrd, hlt, hok]
    refine hpi _ ?_
    simp
    apply hK; clear hK K
    cases e : p y with
    | true =>
      refine L_true (by simp) ?_
      refine L_reg [4] (fun K hK => ?_)
      simp
      apply hK; clear hK K
      exact L_ret ⟨.inr rfl, _, rfl, h1i e hno⟩
    | false =>
      refine L_false (by simp) ?_
      refine L_reg [0, 1, 7, 8] (fun K hK => ?_)
      simp [wrap_i64 (a := (i : Int) + 1) (by omega)]
      apply hK; clear hK K
      exact ⟨l.length - (i + 1), [.int .i64 (i + 1 : Nat)], by omega, by simp, i + 1, rfl, by omega, hnoi e, rfl, rfl⟩
  · refine L_reg [4] (fun K hK => ?_)
    simp
    apply hK; clear hK K
    exact L_ret ⟨.inr rfl, _, rfl, h2 fun x hm => by obtain ⟨j, hj, e⟩ := List.mem_iff_getElem.1 hm; rw [← e]; exact hno j hj (by omega)⟩
theorem within_ac (x lo hi : Int) (p q : Nat) (H : AH) (Q : AV → AH → Prop) (hl : ld H p 0 0 = some (.int .i64 lo)) (hh : ld H q 0 0 = some (.int .i64 hi)) (h : Q (.bool (decide (lo ≤ x ∧ x ≤ hi))) H) : AC Try.prog 54 [.int .i64 x, .ptr p 0 0, .ptr q 0 0] H Q := by
  refine L_body 13 Try.func54 rfl rfl ?_
  refine L_reg [0, 1, 2] (fun K hK => ?_)
  simp
  apply hK; clear hK K
  by_cases h1 : lo ≤ x
  · refine L_reg [4] (fun K hK => ?_)
    simp [pickV, hl, hh, h1]
    apply hK; clear hK K
    exact L_ret ⟨.inr rfl, _, rfl, by simpa [h1] using h⟩
  · refine L_reg [4] (fun K hK => ?_)
    simp [pickV, hl, h1]
    apply hK; clear hK K
    exact L_ret ⟨.inr rfl, _, rfl, by simpa [h1] using h⟩
theorem firstS_some {m s i : Nat} {lo hi : Int} : ∀ n k, k ≤ i → i < k + n → lo ≤ ((i * s % m : Nat) : Int) ∧ ((i * s % m : Nat) : Int) ≤ hi → (∀ j, k ≤ j → j < i → ¬ (lo ≤ ((j * s % m : Nat) : Int) ∧ ((j * s % m : Nat) : Int) ≤ hi)) → firstS m s lo hi n k = ((i : Int), 0)
  | 0, k, h1, h2, _, _ => by omega
  | n + 1, k, h1, h2, h3, h4 => by
    rw [firstS]
    by_cases e : k = i
    · subst e; rw [if_pos h3]
    · rw [if_neg (h4 k (Nat.le_refl _) (by omega))]
      exact firstS_some n (k + 1) (by omega) (by omega) h3 (fun j h5 h6 => h4 j (by omega) h6)
theorem firstS_none {m s : Nat} {lo hi : Int} : ∀ n k, (∀ j, k ≤ j → j < k + n → ¬ (lo ≤ ((j * s % m : Nat) : Int) ∧ ((j * s % m : Nat) : Int) ≤ hi)) → firstS m s lo hi n k = (0, 12)
  | 0, k, _ => rfl
  | n + 1, k, h => by
    rw [firstS, if_neg (h k (Nat.le_refl _) (by omega))]
    exact firstS_none n (k + 1) fun j h1 h2 => h j (by omega) (by omega)
theorem row1 (H : AH) (p : Nat) (x : Int) (st : Nat) (ro : Bool) (h : H[p]? = some (.row [.int .i64 x] 0 st ro)) : ld H p 0 0 = some (.int .i64 x) := by rw [ld_row h]; rfl
theorem set1 {H : AH} {p st : Nat} {x : Int} (h : H[p]? = some (.row [.int .i64 x] 0 st false)) (z : Int) : storeV Try.prog 3 H (.ptr p 0 0) (.int .i64 z) = some (none, H.set p (.row [.int .i64 z] 0 0 false)) := by
  have := store_row (P := Try.prog) (u := 3) (p := 0) sc3 (x := .int .i64 z) (y := .int .i64 x) rfl h rfl
  simpa using this
theorem st_a (H : AH) (x : Int) : storeV Try.prog 3 (H ++ [.row [.int .i64 0] 0 0 false, .row [.int .i64 0] 0 0 false]) (.ptr H.length 0 0) (.int .i64 x) = some (none, H ++ [.row [.int .i64 x] 0 0 false, .row [.int .i64 0] 0 0 false]) := by
  rw [set1 (st := 0) (x := 0) (by simp)]; simp
theorem st_b (H : AH) (x y : Int) : storeV Try.prog 3 (H ++ [.row [.int .i64 x] 0 0 false, .row [.int .i64 0] 0 0 false]) (.ptr (H.length + 1) 0 0) (.int .i64 y) = some (none, H ++ [.row [.int .i64 x] 0 0 false, .row [.int .i64 y] 0 0 false]) := by
  rw [set1 (st := 0) (x := 0) (by simp)]; simp
theorem st_c (H : AH) (x : Int) : storeV Try.prog 3 (H ++ [.row [.int .i64 0] 0 0 false, .row [.int .i64 0] 0 0 false]) (.ptr (H.length + 1) 0 0) (.int .i64 x) = some (none, H ++ [.row [.int .i64 0] 0 0 false, .row [.int .i64 x] 0 0 false]) := by
  rw [set1 (st := 0) (x := 0) (by simp)]; simp
theorem st_d (H : AH) (x y : Int) : storeV Try.prog 3 (H ++ [.row [.int .i64 0] 0 0 false, .row [.int .i64 y] 0 0 false]) (.ptr H.length 0 0) (.int .i64 x) = some (none, H ++ [.row [.int .i64 x] 0 0 false, .row [.int .i64 y] 0 0 false]) := by
  rw [set1 (st := 0) (x := 0) (by simp)]; simp
set_option maxHeartbeats 1600000 in
set_option maxRecDepth 100000 in
theorem wrapFound_ac (a b c d f : Nat) (ha : a < 256) (hb : b < 256) (hc : c < 256) (hd : d < 256) (hf : f < 256) (H : AH) : AC Try.prog 11 [.agg [.int .u8 a, .int .u8 b, .int .u8 c], .int .u8 d, .int .u8 f] H fun u _ => u = .bool true := by
  refine L_body 112 Try.func11 rfl rfl ?_
  obtain ⟨H1, e, hE, hl1, r1, l0, l1, l2, la⟩ := box3u H a b c
  refine L_reg [1, 2, 3] (fun K hK => ?_)
  simp [AV.isU, acells]
  apply hK; clear hK K
  rw [e]
  have hm := mM_ok a
  have hs := mS_ok a b
  have ht := mT_ok a b c
  refine L_reg [1, 2, 7] (fun K hK => ?_)
  simp [okFn_low, la]
  refine made_ac a b c ha hb hc _ _ ?_
  generalize mM a = m at *
  generalize mS a b = s at *
  generalize mT a b c = t at *
  simp [alloc_z zt23, newW, WV]
  apply hK; clear hK K
  obtain ⟨H2, e2, hE2, hl2, r2, bx⟩ := box3 H1 m s t
  rw [e2]
  generalize hp : H1.length = p at *
  have hm0 : 0 < m := by omega
  have hmne : m ≠ 0 := by omega
  have hpm := per_le m s
  have hcz : circleE m s = 0 := by unfold circleE; rw [if_neg (by omega)]
  refine L_reg [1, 2, 7] (fun K hK => ?_)
  simp [okFn_low, bx.l0, bx.l1]
  refine diff_ac m s hm.1 hm.2 hs _ _ ?_
  simp [setT r2]
  apply hK; clear hK K
  have r3 := get_set (o' := AObj.row [.int .i64 m, .int .i64 s, .int .i64 (per m s : Nat)] 0 0 false) r2
  generalize H2.set p (AObj.row [.int .i64 m, .int .i64 s, .int .i64 (per m s : Nat)] 0 0 false) = H3 at *
  have bx := Bx.row r3
  have e3 : ((d : Int)).tmod m = ((d % m : Nat) : Int) := tmodN d m
  have e4 : ((f : Int)).tmod m = ((f % m : Nat) : Int) := tmodN f m
  have hx := Nat.mod_lt d hm0
  have hy := Nat.mod_lt f hm0
  generalize d % m = lo at *
  generalize f % m = hi at *
  obtain ⟨I3, hI3, hz3⟩ := zeroT_some zt3
  have hp3 := (List.getElem?_eq_some_iff.1 r3).1
  refine L_regU2 mixed 10 11 [0, 1, 2, 3, 4, 5, 6, 7, 8, 9, 11, 10, 12, 13] [false, false, false, true, false, false, false, false, true, false, false, false, false] [false, false, false, true, false, false, false, false, true, false, false, false, false] [7, 8, 9] (by kernel_rfl) rfl rfl (by kernel_rfl) (by kernel_rfl) (fun K hK => ?_)
  have hk : ∀ (H4 : AH) (qa qb : Nat), Ext H3 H4 → H4[qa]? = some (AObj.row [.int .i64 lo] 0 0 false) → H4[qb]? = some (AObj.row [.int .i64 hi] 0 0 false) → H3.length ≤ qa → H3.length ≤ qb → qa ≠ qb → K [(7, .ptr p 0 0), (8, .ptr qa 0 0), (9, .ptr qb 0 0)] H4 := by
    intro H4 qa qb hE4 rq rr hqa3 hqb3 hqab
    apply hK; clear hK K
    have hqa4 := (List.getElem?_eq_some_iff.1 rq).1
    have hqb4 := (List.getElem?_eq_some_iff.1 rr).1
    have bx4 := bx.ext hE4
    refine L_reg [7, 8, 9, 38] (fun K hK => ?_)
    simp [row1 _ _ _ _ _ rq, row1 _ _ _ _ _ rr]
    apply hK; clear hK K
    refine L_dec (hi < lo) (by simp) (fun hlt => ?_) (fun hge => ?_)
    · have hF7 : firstR m s lo hi = (0, 7) := by unfold firstR; rw [if_pos hcz, if_pos ⟨by omega, by omega⟩, if_pos (by omega)]
      refine L_reg [7, 8, 9, 11] (fun K hK => ?_)
      simp [okFn_low, bx4.l0, bx4.l1, row1 _ _ _ _ _ rq, row1 _ _ _ _ _ rr]
      refine First_ac m s lo hi _ _ ?_
      simp [hF7]
      apply hK; clear hK K
      refine L_reg [7, 8, 9, 50] (fun K hK => ?_)
      simp
      apply hK; clear hK K
      refine L_false (by simp) ?_
      have rr5 : (H4.set qa (AObj.row [.int .i64 hi] 0 0 false))[qb]? = some (AObj.row [.int .i64 hi] 0 0 false) := by rw [set_ne hqab]; exact rr
      have s1 := set1 rq (hi : Int)
      have s2 := set1 rr5 (lo : Int)
      refine L_reg [7, 8, 9] (fun K hK => ?_)
      simp [row1 _ _ _ _ _ rq, row1 _ _ _ _ _ rr, s1, s2]
      apply hK; clear hK K
      have hqa := row1 _ qa hi 0 false (show ((H4.set qa (AObj.row [.int .i64 hi] 0 0 false)).set qb (AObj.row [.int .i64 lo] 0 0 false))[qa]? = some _ by rw [set_ne (Ne.symm hqab), get_set rq])
      have hqb := row1 _ qb lo 0 false (get_set (o' := AObj.row [.int .i64 lo] 0 0 false) rr5)
      have bx : Bx ((H4.set qa (AObj.row [.int .i64 hi] 0 0 false)).set qb (AObj.row [.int .i64 lo] 0 0 false)) p m s (per m s : Nat) := Bx.row (st := 0) (ro := false) (by rw [set_ne (by omega), set_ne (by omega)]; exact hE4.row r3)
      generalize (H4.set qa (AObj.row [.int .i64 hi] 0 0 false)).set qb (AObj.row [.int .i64 lo] 0 0 false) = H6 at *
      have hle : hi ≤ lo := by omega
      generalize hi = lo' at *
      generalize lo = hi at *
      generalize lo' = lo at *
      · skip
        -- rows qa, qb hold lo, hi
        have hLs0 := fun i => markL_get (m := m) (s := s) (t := per m s) (i := i)
        have hml := markL_len m s (per m s)
        have hF : firstR m s lo hi = firstS m s lo hi (per m s) 0 := by unfold firstR; rw [if_pos hcz, if_pos ⟨by omega, by omega⟩, if_neg (by omega)]; rfl
        refine L_reg [7, 8, 9, 12] (fun K hK => ?_)
        simp [okFn_low, bx.la]
        refine marks_ac m s (per m s) hm.1 hm.2 hs (by omega) _ _ (fun v1 H7 hO1 hE7 => ?_)
        have hLs := hO1.own.ls
        have bx7 := bx.ext hE7
        have hq7 := hE7.ld hqa
        have hr7 := hE7.ld hqb
        simp [okFn_low]
        refine IndexFunc_ac v1 (markL m s (per m s)) 54 [.ptr qa 0 0, .ptr qb 0 0] (fun x => decide ((lo : Int) ≤ x ∧ x ≤ (hi : Int))) H7 _ (by omega) hLs (by simp [okFn_low]) (fun x _ Q hQ => within_ac x lo hi qa qb H7 Q hq7 hr7 hQ) (fun i hi1 hi2 hi3 => ?_) (fun hno => ?_)
        · rw [hml] at hi1
          rw [hLs0] at hi2
          have hS : firstS m s lo hi (per m s) 0 = ((i : Int), 0) := firstS_some (per m s) 0 (by omega) (by omega) (by simpa using hi2) (fun j _ hj => by
            have := hi3 j (by omega) hj
            rw [hLs0] at this
            simpa using this)
          rw [hS] at hF
          have hil : i * s % m < m := Nat.mod_lt _ (by omega)
          have hF2 : firstR m s (i * s % m : Nat) (i * s % m : Nat) = ((i : Int), 0) := by
            unfold firstR
            rw [if_pos hcz, if_pos ⟨by omega, by omega⟩, if_neg (by omega)]
            simp only [Int.toNat_natCast]
            rw [firstS_at, atS_mark (by omega) (Nat.le_refl _) hi1]
          simp
          apply hK; clear hK K
          refine L_reg [7, 12, 13, 14] (fun K hK => ?_)
          simp [okFn_low, bx7.l0, bx7.l1, hq7, hr7]
          refine First_ac m s lo hi _ _ ?_
          simp [hF]
          apply hK; clear hK K
          refine L_reg [7, 12, 13, 14, 68] (fun K hK => ?_)
          simp
          apply hK; clear hK K
          refine L_false (by simp) ?_
          refine L_reg [7, 12, 13, 14, 15] (fun K hK => ?_)
          simp [okFn_low, bx7.la]
          refine marks_ac m s (per m s) hm.1 hm.2 hs (by omega) _ _ (fun v2 H8 hO2 hE8 => ?_)
          have bx8 := bx7.ext hE8
          obtain ⟨r8, off8, ver8, sz8, full8, rfl, hld8⟩ := hO2.own.ls
          obtain ⟨q8, rfl, rfl, hrd8⟩ := hld8 i (by omega)
          rw [hLs0] at hrd8
          generalize hx : i * s % m = x at *
          simp [hml, hi1, hrd8]
          apply hK; clear hK K
          refine L_reg [12, 13, 14, 16, 17] (fun K hK => ?_)
          simp [okFn_low, bx8.l0, bx8.l1]
          refine First_ac m s x x _ _ ?_
          simp [hF2]
          apply hK; clear hK K
          refine L_reg [6] (fun K hK => ?_)
          simp [okFn_low, pickV]
          refine works_ac _ _ ?_
          simp [pickV]
          apply hK; clear hK K
          exact L_ret ⟨.inr rfl, _, rfl, rfl⟩
        · have hS : firstS m s lo hi (per m s) 0 = (0, 12) := firstS_none (per m s) 0 (fun j _ hj => by
            have := hno ((j * s % m : Nat) : Int) (List.mem_iff_getElem.2 ⟨j, by omega, hLs0 j (by omega)⟩)
            simpa using this)
          rw [hS] at hF
          simp
          apply hK; clear hK K
          refine L_reg [7, 12, 13, 14] (fun K hK => ?_)
          simp [okFn_low, bx7.l0, bx7.l1, hq7, hr7]
          refine First_ac m s lo hi _ _ ?_
          simp [hF]
          apply hK; clear hK K
          refine L_reg [7, 12, 13, 14, 68] (fun K hK => ?_)
          simp
          apply hK; clear hK K
          refine L_true (by simp) ?_
          refine L_reg [6] (fun K hK => ?_)
          simp [okFn_low, pickV]
          refine works_ac _ _ ?_
          simp [pickV]
          apply hK; clear hK K
          exact L_ret ⟨.inr rfl, _, rfl, rfl⟩
    · have hqa := row1 _ _ _ _ _ rq
      have hqb := row1 _ _ _ _ _ rr
      have bx := bx4
      have hle : lo ≤ hi := by omega
      · skip
        -- rows qa, qb hold lo, hi
        have hLs0 := fun i => markL_get (m := m) (s := s) (t := per m s) (i := i)
        have hml := markL_len m s (per m s)
        have hF : firstR m s lo hi = firstS m s lo hi (per m s) 0 := by unfold firstR; rw [if_pos hcz, if_pos ⟨by omega, by omega⟩, if_neg (by omega)]; rfl
        refine L_reg [7, 8, 9, 12] (fun K hK => ?_)
        simp [okFn_low, bx.la]
        refine marks_ac m s (per m s) hm.1 hm.2 hs (by omega) _ _ (fun v1 H7 hO1 hE7 => ?_)
        have hLs := hO1.own.ls
        have bx7 := bx.ext hE7
        have hq7 := hE7.ld hqa
        have hr7 := hE7.ld hqb
        simp [okFn_low]
        refine IndexFunc_ac v1 (markL m s (per m s)) 54 [.ptr qa 0 0, .ptr qb 0 0] (fun x => decide ((lo : Int) ≤ x ∧ x ≤ (hi : Int))) H7 _ (by omega) hLs (by simp [okFn_low]) (fun x _ Q hQ => within_ac x lo hi qa qb H7 Q hq7 hr7 hQ) (fun i hi1 hi2 hi3 => ?_) (fun hno => ?_)
        · rw [hml] at hi1
          rw [hLs0] at hi2
          have hS : firstS m s lo hi (per m s) 0 = ((i : Int), 0) := firstS_some (per m s) 0 (by omega) (by omega) (by simpa using hi2) (fun j _ hj => by
            have := hi3 j (by omega) hj
            rw [hLs0] at this
            simpa using this)
          rw [hS] at hF
          have hil : i * s % m < m := Nat.mod_lt _ (by omega)
          have hF2 : firstR m s (i * s % m : Nat) (i * s % m : Nat) = ((i : Int), 0) := by
            unfold firstR
            rw [if_pos hcz, if_pos ⟨by omega, by omega⟩, if_neg (by omega)]
            simp only [Int.toNat_natCast]
            rw [firstS_at, atS_mark (by omega) (Nat.le_refl _) hi1]
          simp
          apply hK; clear hK K
          refine L_reg [7, 12, 13, 14] (fun K hK => ?_)
          simp [okFn_low, bx7.l0, bx7.l1, hq7, hr7]
          refine First_ac m s lo hi _ _ ?_
          simp [hF]
          apply hK; clear hK K
          refine L_reg [7, 12, 13, 14, 68] (fun K hK => ?_)
          simp
          apply hK; clear hK K
          refine L_false (by simp) ?_
          refine L_reg [7, 12, 13, 14, 15] (fun K hK => ?_)
          simp [okFn_low, bx7.la]
          refine marks_ac m s (per m s) hm.1 hm.2 hs (by omega) _ _ (fun v2 H8 hO2 hE8 => ?_)
          have bx8 := bx7.ext hE8
          obtain ⟨r8, off8, ver8, sz8, full8, rfl, hld8⟩ := hO2.own.ls
          obtain ⟨q8, rfl, rfl, hrd8⟩ := hld8 i (by omega)
          rw [hLs0] at hrd8
          generalize hx : i * s % m = x at *
          simp [hml, hi1, hrd8]
          apply hK; clear hK K
          refine L_reg [12, 13, 14, 16, 17] (fun K hK => ?_)
          simp [okFn_low, bx8.l0, bx8.l1]
          refine First_ac m s x x _ _ ?_
          simp [hF2]
          apply hK; clear hK K
          refine L_reg [6] (fun K hK => ?_)
          simp [okFn_low, pickV]
          refine works_ac _ _ ?_
          simp [pickV]
          apply hK; clear hK K
          exact L_ret ⟨.inr rfl, _, rfl, rfl⟩
        · have hS : firstS m s lo hi (per m s) 0 = (0, 12) := firstS_none (per m s) 0 (fun j _ hj => by
            have := hno ((j * s % m : Nat) : Int) (List.mem_iff_getElem.2 ⟨j, by omega, hLs0 j (by omega)⟩)
            simpa using this)
          rw [hS] at hF
          simp
          apply hK; clear hK K
          refine L_reg [7, 12, 13, 14] (fun K hK => ?_)
          simp [okFn_low, bx7.l0, bx7.l1, hq7, hr7]
          refine First_ac m s lo hi _ _ ?_
          simp [hF]
          apply hK; clear hK K
          refine L_reg [7, 12, 13, 14, 68] (fun K hK => ?_)
          simp
          apply hK; clear hK K
          refine L_true (by simp) ?_
          refine L_reg [6] (fun K hK => ?_)
          simp [okFn_low, pickV]
          refine works_ac _ _ ?_
          simp [pickV]
          apply hK; clear hK K
          exact L_ret ⟨.inr rfl, _, rfl, rfl⟩
  constructor
  · simp [addE, hI3, hz3, bx.l0, hmne, e3, e4, wrap_i64 (a := (d : Int)) (by omega), wrap_i64 (a := (f : Int)) (by omega), st_a, st_b, Ext.push]
    exact hk _ H3.length (H3.length + 1) (Ext.push _ _) (by simp) (by simp) (Nat.le_refl _) (by omega) (by omega)
  · simp [addE, permL, hI3, hz3, bx.l0, hmne, e3, e4, wrap_i64 (a := (d : Int)) (by omega), wrap_i64 (a := (f : Int)) (by omega), st_b, st_d, Ext.push]
    exact hk _ (H3.length + 1) H3.length (Ext.push _ _) (by simp) (by simp) (by omega) (Nat.le_refl _) (by omega)
theorem wrapFound_int (n : List Int) (e : n.length = 3) (b : ∀ x ∈ n, IntKind.u8.min ≤ x ∧ x ≤ IntKind.u8.max) (d f : Int) (hd : (Lit.int .u8 d).wf = true) (hf : (Lit.int .u8 f).wf = true) (H : AH) : AC Try.prog 11 [.agg (n.map (.int .u8)), .int .u8 d, .int .u8 f] H fun u _ => u = .bool true := by
  obtain ⟨x, y, z, rfl, hx, hy, hz⟩ := roll_int e b
  obtain ⟨d, rfl, hd2⟩ := u8_of hd
  obtain ⟨f, rfl, hf2⟩ := u8_of hf
  exact wrapFound_ac x y z d f hx hy hz hd2 hf2 H
end Go.Proofs.Ytjfmiohgkcjdnaa
