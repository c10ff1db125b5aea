/- The reference: first turns, even numbers, turns that come nearer, quotients. -/
import Derived.Test.YtjfmiohgkcjdnaaRb
import Derived.Test.YtjfmiohgkcjdnaaWChain
namespace Go.Proofs.Ytjfmiohgkcjdnaa
open Go Go.Proofs.Ytjfmiohgkcjdnaa.AX

theorem newV (H : AH) (a b c : Int) : storeV Try.prog 24 (H ++ [AObj.row [.int .i64 0, .int .i64 0, .int .i64 0] 0 0 false]) (.ptr H.length 0 0) (.agg [.int .i64 a, .int .i64 b, .int .i64 c]) = some (none, H ++ [.row [.int .i64 a, .int .i64 b, .int .i64 c] 0 0 false]) := by
  rw [store_agg ag24 (c := [.int .i64 0, .int .i64 0, .int .i64 0]) (s := 0) (by simp) (by decide) rfl (by simp) rfl (by simp [AV.one])]
  simp
theorem rFirst_ac0 (m s low high : Int) (H : AH) (Q : AV → AH → Prop) (h : ∀ H', Ext H H' → Q (.tuple [.int .i64 (firstR m s low high).1, .int .i64 (firstR m s low high).2]) H') : AC Try.prog 44 [.int .i64 m, .int .i64 s, .int .i64 low, .int .i64 high] H Q := by
  refine L_body 58 Try.func44 rfl rfl ?_
  refine L_reg [0, 1, 2, 3] (fun K hK => ?_)
  simp
  apply hK; clear hK K
  refine L_reg [0, 1, 2, 3, 10] (fun K hK => ?_)
  simp [okFn_low]
  refine rcircle_ac m s _ _ ?_
  simp
  apply hK; clear hK K
  unfold firstR at h
  by_cases h0 : circleE m s = 0
  · obtain ⟨m, s, rfl, rfl, a1, a2, a3⟩ := circleE_zero h0
    rw [if_pos h0] at h
    simp only [Int.toNat_natCast] at h
    by_cases h1 : 0 ≤ low ∧ low ≤ (m : Int) - 1
    · refine L_reg [0, 1, 2, 3, 10, 31] (fun K hK => ?_)
      simp [okFn_low, h0, wrap_i64 (a := (m : Int) - 1) (by omega)]
      refine rin_ac _ _ _ _ _ ?_
      simp [okFn_low, h1, wrap_i64 (a := (m : Int) - 1) (by omega)]
      refine rin_ac _ _ _ _ _ ?_
      simp [pickV]
      apply hK; clear hK K
      by_cases h2 : 0 ≤ high ∧ high ≤ (m : Int) - 1
      · rw [if_pos (by omega)] at h
        refine L_false (by simp [h2]) ?_
        refine L_reg [0, 1, 2, 3, 10, 38] (fun K hK => ?_)
        simp [pickV]
        apply hK; clear hK K
        refine L_dec (high < low) (by simp) (fun h3 => ?_) (fun h3 => ?_)
        · rw [if_pos h3] at h
          refine L_reg [0, 1, 2, 3, 10] (fun K hK => ?_)
          simp
          apply hK; clear hK K
          refine L_reg [0, 1, 2, 3, 10, 40] (fun K hK => ?_)
          simp
          apply hK; clear hK K
          refine L_true (by simp) ?_
          refine L_reg [8, 9] (fun K hK => ?_)
          simp
          apply hK; clear hK K
          exact L_ret ⟨.inr rfl, _, rfl, h _ (.refl _)⟩
        · rw [if_neg h3] at h
          refine L_reg [0, 1, 2, 3, 10, 40] (fun K hK => ?_)
          simp
          apply hK; clear hK K
          refine L_false (by simp) ?_
          refine L_reg [2, 3, 11] (fun K hK => ?_)
          simp [alloc_z zt24, newV]
          apply hK; clear hK K
          obtain ⟨H1, e, hE, hl1, r1, b⟩ := box3 H m s 0
          rw [e]
          refine L_reg [2, 3, 11, 12] (fun K hK => ?_)
          simp
          apply hK; clear hK K
          have hpm := per_le m s
          refine L_block (L_loopV [12] (fun n vs H' => ∃ k : Nat, n = per m s - k ∧ k ≤ per m s ∧ firstS m s low high (per m s - k) k = firstS m s low high (per m s) 0 ∧ vs = [.int .i64 k] ∧ H1 = H') _ [.int .i64 0] rfl ⟨0, rfl, by omega, rfl, rfl, rfl⟩ ?_)
          rintro n _ _ ⟨k, rfl, hk, hf, rfl, rfl⟩
          refine L_reg [2, 3, 11, 12, 48] (fun K hK => ?_)
          simp [okFn_low, b.la]
          refine rdiff_ac m s 0 a1 a2 a3 _ _ ?_
          simp
          apply hK; clear hK K
          refine L_dec (k < per m s) (by simp) (fun hlt => ?_) (fun hge => L_exit ?_)
          · refine L_block ?_
            have hks := bound (k := k) a2 a3 (Nat.le_refl _) (by omega)
            rw [show per m s - k = (per m s - (k + 1)) + 1 by omega, firstS] at hf
            generalize hmk : k * s % m = mk at hf
            refine L_reg [2, 3, 11, 12, 56] (fun K hK => ?_)
            simp [okFn_low, b.la]
            refine rmark_ac m s k 0 (by omega) (by omega) _ _ ?_
            simp [okFn_low, hmk]
            refine rin_ac _ _ _ _ _ ?_
            simp
            apply hK; clear hK K
            by_cases h4 : low ≤ (mk : Int) ∧ (mk : Int) ≤ high
            · refine L_true (by simp [h4]) ?_
              rw [if_pos h4] at hf
              rw [← hf] at h
              refine L_reg [8, 9] (fun K hK => ?_)
              simp
              apply hK; clear hK K
              exact L_ret ⟨.inr rfl, _, rfl, h _ hE⟩
            · refine L_false (by simp; omega) ?_
              rw [if_neg h4] at hf
              refine L_reg [2, 3, 11, 12] (fun K hK => ?_)
              simp [wrap_i64 (a := (k : Int) + 1) (by omega)]
              apply hK; clear hK K
              exact ⟨per m s - (k + 1), [.int .i64 ((k + 1 : Nat) : Int)], by omega, by simp, k + 1, rfl, by omega, hf, rfl, rfl⟩
          · rw [show per m s - k = 0 by omega, firstS] at hf
            rw [← hf] at h
            refine L_reg [8, 9] (fun K hK => ?_)
            simp
            apply hK; clear hK K
            exact L_ret ⟨.inr rfl, _, rfl, h _ hE⟩
      · rw [if_neg (by omega)] at h
        refine L_true (by simp; omega) ?_
        refine L_reg [0, 1, 2, 3, 10] (fun K hK => ?_)
        simp
        apply hK; clear hK K
        refine L_reg [0, 1, 2, 3, 10, 38] (fun K hK => ?_)
        simp [pickV]
        apply hK; clear hK K
        refine L_false (by simp) ?_
        refine L_reg [0, 1, 2, 3, 10, 40] (fun K hK => ?_)
        simp
        apply hK; clear hK K
        refine L_true (by simp) ?_
        refine L_reg [8, 9] (fun K hK => ?_)
        simp
        apply hK; clear hK K
        exact L_ret ⟨.inr rfl, _, rfl, h _ (.refl _)⟩
    · rw [if_neg (by omega)] at h
      refine L_reg [0, 1, 2, 3, 10, 31] (fun K hK => ?_)
      simp [okFn_low, h0, wrap_i64 (a := (m : Int) - 1) (by omega)]
      refine rin_ac _ _ _ _ _ ?_
      simp [pickV, h1]
      apply hK; clear hK K
      refine L_true (by simp) ?_
      refine L_reg [0, 1, 2, 3, 10] (fun K hK => ?_)
      simp
      apply hK; clear hK K
      refine L_reg [0, 1, 2, 3, 10, 38] (fun K hK => ?_)
      simp [pickV]
      apply hK; clear hK K
      refine L_false (by simp) ?_
      refine L_reg [0, 1, 2, 3, 10, 40] (fun K hK => ?_)
      simp
      apply hK; clear hK K
      refine L_true (by simp) ?_
      refine L_reg [8, 9] (fun K hK => ?_)
      simp
      apply hK; clear hK K
      exact L_ret ⟨.inr rfl, _, rfl, h _ (.refl _)⟩
  · have hb : (circleE m s == 0) = false := by simpa using h0
    rw [if_neg h0] at h
    refine L_reg [0, 1, 2, 3, 10, 31] (fun K hK => ?_)
    simp [pickV, hb]
    apply hK; clear hK K
    refine L_false (by simp) ?_
    refine L_reg [0, 1, 2, 3, 10, 38] (fun K hK => ?_)
    simp [pickV, hb]
    apply hK; clear hK K
    refine L_false (by simp) ?_
    refine L_reg [0, 1, 2, 3, 10, 40] (fun K hK => ?_)
    simp
    apply hK; clear hK K
    refine L_true (by simp [h0]) ?_
    refine L_reg [8, 9] (fun K hK => ?_)
    simp
    apply hK; clear hK K
    exact L_ret ⟨.inr rfl, _, rfl, h _ (.refl _)⟩
theorem rFirst_ac (m s low high : Int) (H : AH) (Q : AV → AH → Prop) (h : Q (.tuple [.int .i64 (firstR m s low high).1, .int .i64 (firstR m s low high).2]) H) : AC Try.prog 44 [.int .i64 m, .int .i64 s, .int .i64 low, .int .i64 high] H Q :=
  AC.quiet (by simp [belB]) (fun Q h => rFirst_ac0 m s low high H Q h) Q h
theorem wrapFirst_ac (m s low high : Int) (H : AH) : AC Try.prog 6 [.int .i64 m, .int .i64 s, .int .i64 low, .int .i64 high] H fun u _ => u = .bool true := by
  refine L_body 40 Try.func6 rfl rfl ?_
  refine L_reg [0, 1, 2, 3] (fun K hK => ?_)
  simp
  apply hK; clear hK K
  refine L_reg [0, 1, 2, 3, 9, 10] (fun K hK => ?_)
  simp [okFn_low]
  refine First_ac m s low high _ _ ?_
  simp
  apply hK; clear hK K
  refine L_reg [9, 10, 11, 12] (fun K hK => ?_)
  simp [okFn_low]
  refine rFirst_ac m s low high _ _ ?_
  simp
  apply hK; clear hK K
  refine L_reg [8] (fun K hK => ?_)
  simp [pickV, okFn_low]
  refine works_ac _ _ ?_
  simp [pickV]
  apply hK; clear hK K
  exact L_ret ⟨.inr rfl, _, rfl, rfl⟩
end Go.Proofs.Ytjfmiohgkcjdnaa
