/- The reference: widths, turns beside, and what is answered. -/
import Derived.Test.YtjfmiohgkcjdnaaRa
namespace Go.Proofs.Ytjfmiohgkcjdnaa
open Go Go.Proofs.Ytjfmiohgkcjdnaa.AX

theorem widN_one {L : List Int} (h : ∀ x ∈ L, 1 ≤ x) : widN L 1 = [] := by
  have h0 : L.count ((0 : Nat) : Int) = 0 := List.count_eq_zero.2 fun hm => by have := h _ hm; omega
  rw [widN_succ, h0]
  simp [widN]
theorem widN_stop {L : List Int} {m : Nat} (h : ∀ x ∈ L, x ≤ (m : Int)) : ∀ d, widN L (m + 1 + d) = widN L (m + 1)
  | 0 => rfl
  | d + 1 => by
    have h0 : L.count ((m + 1 + d : Nat) : Int) = 0 := List.count_eq_zero.2 fun hm => by have := h _ hm; omega
    rw [show m + 1 + (d + 1) = (m + 1 + d) + 1 by omega, widN_succ, h0, if_neg (by omega), widN_stop h d]
theorem rwidths_ac (m s t : Nat) (h1 : 1 ≤ m) (h2 : m ≤ 100) (h3 : s < m) (h5 : t ≤ per m s) (H : AH) (Q : AV → AH → Prop) (h : ∀ v H', OwnK 2 H.length H' v (prs (widthsS m s t)) → Ext H H' → Q v H') : AC Try.prog 76 [WV m s t] H Q := by
  refine L_body 39 Try.func76 rfl rfl ?_
  refine L_reg [1] (fun K hK => ?_)
  simp [AV.isU, acells, WV]
  apply hK; clear hK K
  obtain ⟨H1, e, hE, -, -, b⟩ := box3 H m s t
  rw [e]
  refine L_reg [1, 3] (fun K hK => ?_)
  simp
  apply hK; clear hK K
  refine L_reg [1, 3, 4] (fun K hK => ?_)
  simp [okFn_low, b.la]
  refine rgaps_ac m s t h1 h2 h3 h5 _ _ (fun v H2 hO hE2 => ?_)
  simp
  apply hK; clear hK K
  have b2 := b.ext hE2
  have hpm := per_le m s
  have hgl := gapsS_len (m := m) (s := s) (show 0 < m by omega) h5
  have hG := gapsS_bound (m := m) (s := s) (t := t)
  have hLs : Ls H2 v (gapsS m s t) := hO.own.ls
  have hw1 := widN_one (fun x hx => (hG x hx).1)
  have hw2 := widN_stop (m := m) (fun x hx => (hG x hx).2) (100 - m)
  rw [show m + 1 + (100 - m) = 101 by omega] at hw2
  unfold widthsS at h
  generalize gapsS m s t = G at *
  refine L_reg [1, 3, 4, 5] (fun K hK => ?_)
  simp
  apply hK; clear hK K
  refine L_block (L_loopV [3, 5] (fun n vs H' => ∃ (w : Nat) (u : AV), n = m + 1 - w ∧ 1 ≤ w ∧ w ≤ m + 1 ∧ vs = [u, .int .i64 w] ∧ OwnK 2 H2.length H' u (prs (widN G w)) ∧ Ext H2 H') _ [.slice none 0 0 0 1 false, .int .i64 1] rfl ⟨1, _, rfl, by omega, by omega, rfl, by rw [hw1]; exact OwnK.nil _ _ _, .refl _⟩ ?_)
  rintro n _ H3 ⟨w, u, rfl, hw, hwm, rfl, hO3, hE3⟩
  have b3 := b2.ext hE3
  obtain ⟨r, off, ver, sz, full, rfl, hld⟩ := hLs.ext hE3
  refine L_reg [1, 3, 4, 5, 13] (fun K hK => ?_)
  simp [b3.l0]
  apply hK; clear hK K
  refine L_dec (w ≤ m) (by simp) (fun hlt => ?_) (fun hge => L_exit ?_)
  · refine L_block ?_
    refine L_reg [1, 3, 4, 5, 6] (fun K hK => ?_)
    simp
    apply hK; clear hK K
    refine L_reg [1, 3, 4, 5, 6, 7] (fun K hK => ?_)
    simp
    apply hK; clear hK K
    have hcl : ∀ i, (G.take i).count (w : Int) ≤ i := fun i => Nat.le_trans List.count_le_length (by simp; omega)
    refine L_block (L_loopV [6, 7] (fun n vs H' => ∃ i : Nat, n = t - i ∧ i ≤ t ∧ vs = [.int .i64 ((G.take i).count (w : Int) : Nat), .int .i64 i] ∧ H3 = H') _ [.int .i64 0, .int .i64 0] rfl ⟨0, rfl, by omega, by simp, rfl⟩ ?_)
    rintro n _ _ ⟨i, rfl, hi, rfl, rfl⟩
    refine L_reg [1, 3, 4, 5, 6, 7, 19] (fun K hK => ?_)
    simp [hgl]
    apply hK; clear hK K
    have hci := hcl i
    refine L_dec (i < t) (by simp) (fun hlt2 => ?_) (fun hge2 => L_exit ?_)
    · refine L_block ?_
      obtain ⟨r', rfl, rfl, hrd⟩ := hld i (by omega)
      have hsu : (G.take (i + 1)).count (w : Int) = (G.take i).count (w : Int) + (if G[i] = (w : Int) then 1 else 0) := by
        rw [List.take_add_one, List.getElem?_eq_getElem (by omega), List.count_append]
        by_cases e : G[i] = (w : Int)
        · simp [e]
        · simp [e]
      generalize G[i]'(by omega) = x at hrd hsu
      generalize hc2 : (G.take (i + 1)).count (w : Int) = c2 at hsu
      generalize (G.take i).count (w : Int) = c1 at hsu hci
      refine L_reg [1, 3, 4, 5, 6, 7, 27] (fun K hK => ?_)
      simp [hrd, hlt2]
      apply hK; clear hK K
      by_cases he : x = w
      · refine L_true (by simp [he]) ?_
        rw [if_pos he] at hsu
        refine L_reg [1, 3, 4, 5, 6, 7] (fun K hK => ?_)
        simp [wrap_i64 (a := (c1 : Int) + 1) (by omega)]
        apply hK; clear hK K
        refine L_reg [1, 3, 4, 5, 6, 7] (fun K hK => ?_)
        simp [wrap_i64 (a := (i : Int) + 1) (by omega)]
        apply hK; clear hK K
        exact ⟨t - (i + 1), [.int .i64 ((c1 : Int) + 1), .int .i64 ((i + 1 : Nat) : Int)], by omega, by simp [hgl], i + 1, rfl, by omega, by rw [hc2, hsu]; rfl, rfl⟩
      · refine L_false (by simp [he]) ?_
        rw [if_neg he] at hsu
        refine L_reg [1, 3, 4, 5, 6, 7] (fun K hK => ?_)
        simp [wrap_i64 (a := (i : Int) + 1) (by omega)]
        apply hK; clear hK K
        exact ⟨t - (i + 1), [.int .i64 (c1 : Int), .int .i64 ((i + 1 : Nat) : Int)], by omega, by simp [hgl], i + 1, rfl, by omega, by rw [hc2, hsu]; rfl, rfl⟩
    · have hi' : i = t := by omega
      have hG2 : G.take i = G := by rw [List.take_of_length_le (by omega)]
      rw [hG2]
      rw [hG2] at hci
      have hsucc := widN_succ G w
      have hwl := widN_le G w
      generalize G.count (w : Int) = cc at hsucc hci
      refine L_reg [1, 3, 4, 5, 6, 31] (fun K hK => ?_)
      simp
      apply hK; clear hK K
      refine L_dec (0 < cc) (by simp) (fun hpos => ?_) (fun hpos => ?_)
      · rw [if_pos hpos] at hsucc
        obtain ⟨v', H6, happ, hO6, hE6⟩ := ownK_append hE3 elk40 elk40 (x := [.int .i64 w, .int .i64 cc]) (m := 2) hO3 rfl (by simp [AV.one]) (by simp [prs]; omega)
        refine L_reg [1, 3, 4, 5] (fun K hK => ?_)
        simp [happ]
        apply hK; clear hK K
        refine L_reg [1, 3, 4, 5] (fun K hK => ?_)
        simp [wrap_i64 (a := (w : Int) + 1) (by omega)]
        apply hK; clear hK K
        refine ⟨m + 1 - (w + 1), [v', .int .i64 ((w + 1 : Nat) : Int)], by omega, by simp [hgl], w + 1, v', rfl, by omega, by omega, rfl, ?_, hE6⟩
        rw [hsucc]
        simpa [prs] using hO6
      · rw [if_neg hpos] at hsucc
        refine L_reg [1, 3, 4, 5] (fun K hK => ?_)
        simp [wrap_i64 (a := (w : Int) + 1) (by omega)]
        apply hK; clear hK K
        exact ⟨m + 1 - (w + 1), [u, .int .i64 ((w + 1 : Nat) : Int)], by omega, by simp [hgl], w + 1, u, rfl, by omega, by omega, rfl, by rw [hsucc]; exact hO3, hE3⟩
  · have hw' : w = m + 1 := by omega
    subst hw'
    rw [hw2] at h
    refine L_reg [2] (fun K hK => ?_)
    simp
    apply hK; clear hK K
    exact L_ret ⟨.inr rfl, _, rfl, h u H3 ⟨hO3.1, hO3.2.imp id fun ⟨r, ver, st, g1, g2⟩ => ⟨r, ver, st, by have := hE.1; have := hE2.1; omega, g2⟩⟩ (hE.trans (hE2.trans hE3))⟩
theorem rCheck_ac0 (m s t : Int) (H : AH) (Q : AV → AH → Prop) (h : ∀ H', Ext H H' → Q (.int .i64 (checkE m s t)) H') : AC Try.prog 21 [WV m s t] H Q := by
  refine L_body 26 Try.func21 rfl rfl ?_
  refine L_reg [1] (fun K hK => ?_)
  simp [AV.isU, acells, WV]
  apply hK; clear hK K
  obtain ⟨H1, e, hE, -, -, b⟩ := box3 H m s t
  rw [e]
  refine L_reg [1, 3] (fun K hK => ?_)
  simp [okFn_low, b.l0, b.l1]
  refine rcircle_ac m s _ _ ?_
  simp
  apply hK; clear hK K
  by_cases h0 : circleE m s = 0
  · obtain ⟨m, s, rfl, rfl, a1, a2, a3⟩ := circleE_zero h0
    by_cases h1 : t < 1
    · refine L_reg [1, 3, 15] (fun K hK => ?_)
      simp [b.l2, pickV, h0, h1]
      apply hK; clear hK K
      refine L_true (by simp) ?_
      refine L_reg [1, 3] (fun K hK => ?_)
      simp
      apply hK; clear hK K
      refine L_regQ mixed [3, 24] (by kernel_rfl) (fun K hK => ?_)
      simp [pickV]
      apply hK; clear hK K
      refine L_false (by simp) ?_
      refine L_reg [2] (fun K hK => ?_)
      simp
      apply hK; clear hK K
      exact L_ret ⟨.inr rfl, _, rfl, by simpa [checkE, h1] using h _ hE⟩
    · refine L_reg [1, 3, 15] (fun K hK => ?_)
      simp [b.l2, pickV, h0, h1]
      apply hK; clear hK K
      refine L_false (by simp) ?_
      refine L_regQ mixed [3, 24] (by kernel_rfl) (fun K hK => ?_)
      simp [okFn_low, b.l2, b.la]
      refine exQ_mk (fun Q hQ => rdiff_ac m s t (by omega) (by omega) (by omega) H1 Q hQ) ?_
      simp [pickV]
      apply hK; clear hK K
      by_cases h2 : (per m s : Int) < t
      · refine L_true (by simp [h2]) ?_
        refine L_reg [3] (fun K hK => ?_)
        simp
        apply hK; clear hK K
        refine L_reg [2] (fun K hK => ?_)
        simp
        apply hK; clear hK K
        exact L_ret ⟨.inr rfl, _, rfl, by have h3 := h _ hE; rw [checkE, if_neg (by omega), if_pos (by simpa using h2)] at h3; exact h3⟩
      · refine L_false (by simp; omega) ?_
        refine L_reg [2] (fun K hK => ?_)
        simp
        apply hK; clear hK K
        exact L_ret ⟨.inr rfl, _, rfl, by have h3 := h _ hE; rw [checkE, if_neg (by omega), if_neg (by simpa using h2)] at h3; simpa [h0] using h3⟩
  · have hb : (circleE m s == 0) = false := by simpa using h0
    refine L_reg [1, 3, 15] (fun K hK => ?_)
    simp [pickV, hb]
    apply hK; clear hK K
    refine L_false (by simp) ?_
    refine L_regQ mixed [3, 24] (by kernel_rfl) (fun K hK => ?_)
    simp [pickV, hb]
    apply hK; clear hK K
    refine L_false (by simp) ?_
    refine L_reg [2] (fun K hK => ?_)
    simp
    apply hK; clear hK K
    have hc : checkE m s t = circleE m s := by
      unfold circleE at h0 ⊢
      split at h0
      · rename_i h1; rw [checkE, if_pos (by omega), if_pos h1]
      · exact absurd rfl h0
    exact L_ret ⟨.inr rfl, _, rfl, by rw [← hc]; exact h _ hE⟩
theorem rCheck_ac (m s t : Int) (H : AH) (Q : AV → AH → Prop) (h : Q (.int .i64 (checkE m s t)) H) : AC Try.prog 21 [WV m s t] H Q :=
  AC.quiet (belB_int _ _ _ _) (fun Q h => rCheck_ac0 m s t H Q h) Q h
theorem rMark_ac0 (m s t k : Int) (H : AH) (Q : AV → AH → Prop) (h : ∀ H', Ext H H' → Q (.tuple [.int .i64 (markS m s t k).1, .int .i64 (markS m s t k).2]) H') : AC Try.prog 17 [WV m s t, .int .i64 k] H Q := by
  refine L_body 25 Try.func17 rfl rfl ?_
  refine L_reg [1, 2] (fun K hK => ?_)
  simp [AV.isU, acells, WV]
  apply hK; clear hK K
  obtain ⟨H1, e, hE, -, -, b⟩ := box3 H m s t
  rw [e]
  refine L_reg [1, 2, 6] (fun K hK => ?_)
  simp [okFn_low, b.la]
  refine rCheck_ac m s t _ _ ?_
  simp
  apply hK; clear hK K
  by_cases h0 : checkE m s t = 0
  · obtain ⟨m, s, t, rfl, rfl, rfl, a1, a2, a3, a4, a5⟩ := checkE_zero h0
    have hpm := per_le m s
    refine L_reg [1, 2, 6, 18] (fun K hK => ?_)
    simp [okFn_low, b.l2, h0, wrap_i64 (a := (t : Int) - 1) (by omega)]
    refine rin_ac _ _ _ _ _ ?_
    simp [pickV]
    apply hK; clear hK K
    by_cases h1 : 0 ≤ k ∧ k ≤ (t : Int) - 1
    · refine L_false (by simp [h1]) ?_
      refine L_reg [1, 2, 6, 20] (fun K hK => ?_)
      simp
      apply hK; clear hK K
      refine L_false (by simp) ?_
      obtain ⟨k, rfl⟩ : ∃ k' : Nat, k = k' := ⟨k.toNat, by omega⟩
      have h2 : turnE m s t k = 0 := by rw [turnE, if_pos h0, if_pos (by omega)]
      have := bound a2 a3 a5 (show k ≤ t by omega)
      refine L_reg [4, 5] (fun K hK => ?_)
      simp [okFn_low, b.la]
      refine rmark_ac m s k t (by omega) (by omega) _ _ ?_
      simp
      apply hK; clear hK K
      exact L_ret ⟨.inr rfl, _, rfl, by simpa [markS, h2] using h _ hE⟩
    · refine L_true (by simp; omega) ?_
      refine L_reg [1, 2, 6] (fun K hK => ?_)
      simp
      apply hK; clear hK K
      refine L_reg [1, 2, 6, 20] (fun K hK => ?_)
      simp
      apply hK; clear hK K
      refine L_true (by simp) ?_
      refine L_reg [4, 5] (fun K hK => ?_)
      simp
      apply hK; clear hK K
      have h2 : turnE m s t k = 2 := by rw [turnE, if_pos h0, if_neg (by omega)]
      exact L_ret ⟨.inr rfl, _, rfl, by simpa [markS, h2] using h _ hE⟩
  · have hb : (checkE m s t == 0) = false := by simpa using h0
    refine L_reg [1, 2, 6, 18] (fun K hK => ?_)
    simp [pickV, hb]
    apply hK; clear hK K
    refine L_false (by simp) ?_
    refine L_reg [1, 2, 6, 20] (fun K hK => ?_)
    simp
    apply hK; clear hK K
    refine L_true (by simp [h0]) ?_
    refine L_reg [4, 5] (fun K hK => ?_)
    simp
    apply hK; clear hK K
    have h2 : turnE m s t k = checkE m s t := by rw [turnE, if_neg h0]
    exact L_ret ⟨.inr rfl, _, rfl, by simpa [markS, h2, h0] using h _ hE⟩
theorem rMark_ac (m s t k : Int) (H : AH) (Q : AV → AH → Prop) (h : Q (.tuple [.int .i64 (markS m s t k).1, .int .i64 (markS m s t k).2]) H) : AC Try.prog 17 [WV m s t, .int .i64 k] H Q :=
  AC.quiet (by simp [belB]) (fun Q h => rMark_ac0 m s t k H Q h) Q h
theorem firstS_at (m s w : Nat) : ∀ n k, firstS m s w w n k = match atS m s w n k with | some x => ((x : Int), 0) | none => (0, 12)
  | 0, k => rfl
  | n + 1, k => by
    rw [firstS, atS]
    by_cases h : k * s % m = w
    · rw [if_pos (by omega), if_pos h]
    · rw [if_neg (by omega), if_neg h, firstS_at m s w n (k + 1)]
theorem rWhich_ac0 (m s t k : Int) (H : AH) (Q : AV → AH → Prop) (h : ∀ H', Ext H H' → Q (.tuple [.int .i64 (whichS m s t k).1, .int .i64 (whichS m s t k).2]) H') : AC Try.prog 19 [WV m s t, .int .i64 k] H Q := by
  refine L_body 33 Try.func19 rfl rfl ?_
  refine L_reg [1, 2] (fun K hK => ?_)
  simp [AV.isU, acells, WV]
  apply hK; clear hK K
  obtain ⟨H1, e, hE, -, -, b⟩ := box3 H m s t
  rw [e]
  refine L_reg [1, 2, 6] (fun K hK => ?_)
  simp [okFn_low, b.la]
  refine rCheck_ac m s t _ _ ?_
  simp
  apply hK; clear hK K
  by_cases h0 : checkE m s t = 0
  · obtain ⟨m, s, t, rfl, rfl, rfl, a1, a2, a3, a4, a5⟩ := checkE_zero h0
    refine L_reg [1, 2, 6, 18] (fun K hK => ?_)
    simp [okFn_low, b.l0, h0, wrap_i64 (a := (m : Int) - 1) (by omega)]
    refine rin_ac _ _ _ _ _ ?_
    simp [pickV]
    apply hK; clear hK K
    by_cases h1 : 0 ≤ k ∧ k ≤ (m : Int) - 1
    · refine L_false (by simp [h1]) ?_
      obtain ⟨k, rfl⟩ : ∃ k' : Nat, k = k' := ⟨k.toNat, by omega⟩
      have hat := rat_ac m s t k a1 a2 a3 a5 H1
      have hw : whichS m s t k = firstS m s k k t 0 := by rw [whichS, if_pos h0, if_pos (by omega)]; rfl
      rw [firstS_at] at hw
      rw [hw] at h
      unfold atI at hat
      cases ha : atS m s k t 0 with
      | none =>
        rw [ha] at h hat
        refine L_reg [1, 2, 6, 26] (fun K hK => ?_)
        simp [okFn_low, b.la]
        refine hat _ ?_
        simp [pickV]
        apply hK; clear hK K
        refine L_true (by simp) ?_
        refine L_reg [1, 2, 6] (fun K hK => ?_)
        simp
        apply hK; clear hK K
        refine L_reg [1, 2, 6, 28] (fun K hK => ?_)
        simp
        apply hK; clear hK K
        refine L_true (by simp) ?_
        refine L_reg [4, 5] (fun K hK => ?_)
        simp
        apply hK; clear hK K
        exact L_ret ⟨.inr rfl, _, rfl, h _ hE⟩
      | some x =>
        rw [ha] at h hat
        refine L_reg [1, 2, 6, 26] (fun K hK => ?_)
        simp [okFn_low, b.la]
        refine hat _ ?_
        simp [pickV]
        apply hK; clear hK K
        refine L_false (by simp) ?_
        refine L_reg [1, 2, 6, 28] (fun K hK => ?_)
        simp
        apply hK; clear hK K
        refine L_false (by simp) ?_
        refine L_reg [4, 5] (fun K hK => ?_)
        simp [okFn_low, b.la]
        refine hat _ ?_
        simp
        apply hK; clear hK K
        exact L_ret ⟨.inr rfl, _, rfl, h _ hE⟩
    · refine L_true (by simp; omega) ?_
      refine L_reg [1, 2, 6] (fun K hK => ?_)
      simp
      apply hK; clear hK K
      refine L_reg [1, 2, 6, 26] (fun K hK => ?_)
      simp [pickV]
      apply hK; clear hK K
      refine L_false (by simp) ?_
      refine L_reg [1, 2, 6, 28] (fun K hK => ?_)
      simp
      apply hK; clear hK K
      refine L_true (by simp) ?_
      refine L_reg [4, 5] (fun K hK => ?_)
      simp
      apply hK; clear hK K
      have hw : whichS m s t k = (0, 2) := by rw [whichS, if_pos h0, if_neg (by omega)]
      exact L_ret ⟨.inr rfl, _, rfl, by simpa [hw] using h _ hE⟩
  · have hb : (checkE m s t == 0) = false := by simpa using h0
    refine L_reg [1, 2, 6, 18] (fun K hK => ?_)
    simp [pickV, hb]
    apply hK; clear hK K
    refine L_false (by simp) ?_
    refine L_reg [1, 2, 6, 26] (fun K hK => ?_)
    simp [pickV, hb]
    apply hK; clear hK K
    refine L_false (by simp) ?_
    refine L_reg [1, 2, 6, 28] (fun K hK => ?_)
    simp
    apply hK; clear hK K
    refine L_true (by simp [h0]) ?_
    refine L_reg [4, 5] (fun K hK => ?_)
    simp
    apply hK; clear hK K
    have hw : whichS m s t k = (0, checkE m s t) := by rw [whichS, if_neg h0]
    exact L_ret ⟨.inr rfl, _, rfl, by simpa [hw] using h _ hE⟩
theorem rWhich_ac (m s t k : Int) (H : AH) (Q : AV → AH → Prop) (h : Q (.tuple [.int .i64 (whichS m s t k).1, .int .i64 (whichS m s t k).2]) H) : AC Try.prog 19 [WV m s t, .int .i64 k] H Q :=
  AC.quiet (by simp [belB]) (fun Q h => rWhich_ac0 m s t k H Q h) Q h
end Go.Proofs.Ytjfmiohgkcjdnaa
