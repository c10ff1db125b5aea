/- What comes nearer: the program, and the law's own reckoning. -/
import Derived.Test.YtjfmiohgkcjdnaaMade2
namespace Go.Proofs.Ytjfmiohgkcjdnaa
open Go Go.Proofs.Ytjfmiohgkcjdnaa.AX

def distN (m s k : Nat) : Nat := min (k * s % m) (m - k * s % m)
/-- The turns up to turn k that come nearer, and the least distance. -/
def nrS (m s : Nat) : Nat → List Int × Nat
  | 0 => ([], m)
  | k + 1 => if distN m s (k + 1) < (nrS m s k).2 then ((nrS m s k).1 ++ [((k + 1 : Nat) : Int)], distN m s (k + 1)) else nrS m s k
theorem nrS_le {m s : Nat} : ∀ k, (nrS m s k).1.length ≤ k ∧ (nrS m s k).2 ≤ m
  | 0 => by simp [nrS]
  | k + 1 => by
    have h := nrS_le (m := m) (s := s) k
    simp only [nrS]
    split
    · have : distN m s (k + 1) ≤ m := by unfold distN; omega
      simp; omega
    · omega
theorem nrS_pos {m s : Nat} (hm : 0 < m) : ∀ k, k < per m s → 0 < (nrS m s k).2
  | 0, _ => hm
  | k + 1, h => by
    have h1 := nrS_pos (s := s) hm k (by omega)
    have hne : (k + 1) * s % m ≠ 0 := by
      intro e
      have h2 : per m s ∣ k + 1 := (per_dvd hm).1 e
      have := Nat.eq_zero_of_dvd_of_lt h2 h
      omega
    have hlt : (k + 1) * s % m < m := Nat.mod_lt _ hm
    simp only [nrS]
    split
    · unfold distN; omega
    · exact h1
theorem nrS_last {m s : Nat} (hm : 0 < m) : ∃ L, (nrS m s (per m s)).1 = L ++ [((per m s : Nat) : Int)] := by
  have hp := per_pos (s := s) hm
  obtain ⟨k, hk⟩ : ∃ k, per m s = k + 1 := ⟨per m s - 1, by omega⟩
  have hz : (k + 1) * s % m = 0 := (per_dvd hm).2 (by rw [hk]; exact Nat.dvd_refl _)
  have h1 := nrS_pos (s := s) hm k (by omega)
  rw [hk]
  refine ⟨(nrS m s k).1, ?_⟩
  have : distN m s (k + 1) < (nrS m s k).2 := by unfold distN; omega
  simp only [nrS]
  rw [if_pos this]
theorem dist_ac0 (m s k : Nat) (t : Int) (h1 : 1 ≤ m) (h2 : m ≤ 100) (h3 : s < m) (hk : k ≤ 100) (H : AH) (Q : AV → AH → Prop) (h : ∀ H', Ext H H' → Q (.int .i64 (distN m s k : Nat)) H') : AC Try.prog 79 [WV m s t, .int .i64 k] H Q := by
  refine L_body 15 Try.func79 rfl rfl ?_
  refine L_reg [1, 2] (fun K hK => ?_)
  simp [AV.isU, acells, WV]
  apply hK; clear hK K
  obtain ⟨H1, e, hE, hl1, r1, b⟩ := box3 H m s t
  rw [e]
  have hks : k * s ≤ 10000 := by calc k * s ≤ 100 * 100 := Nat.mul_le_mul hk (by omega)
    _ ≤ 10000 := by decide
  have hml : k * s % m < m := Nat.mod_lt _ (by omega)
  unfold distN at h
  generalize hw : k * s % m = w at h hml
  refine L_reg [2, 5] (fun K hK => ?_)
  simp [okFn_low, b.la]
  refine mark_ac m s k t (by omega) (by omega) _ _ ?_
  simp [hw]
  apply hK; clear hK K
  refine L_reg [4] (fun K hK => ?_)
  simp [b.l0, wrap_i64 (a := (m : Int) - w) (by omega)]
  apply hK; clear hK K
  have e2 : min (w : Int) ((m : Int) - w) = ((min w (m - w) : Nat) : Int) := by omega
  exact L_ret ⟨.inr rfl, _, rfl, by rw [e2]; exact h _ hE⟩
theorem dist_ac (m s k : Nat) (t : Int) (h1 : 1 ≤ m) (h2 : m ≤ 100) (h3 : s < m) (hk : k ≤ 100) (H : AH) (Q : AV → AH → Prop) (h : Q (.int .i64 (distN m s k : Nat)) H) : AC Try.prog 79 [WV m s t, .int .i64 k] H Q :=
  AC.quiet (belB_int _ _ _ _) (fun Q h => dist_ac0 m s k t h1 h2 h3 hk H Q h) Q h
def nearR (m s : Int) : List Int := if circleE m s = 0 then (nrS m.toNat s.toNat (per m.toNat s.toNat)).1 else []
set_option maxRecDepth 100000 in
theorem Nearer_ac (m s : Int) (H : AH) (Q : AV → AH → Prop) (h : ∀ v H', OwnF H.length H' v ((nearR m s).map (.int .i64)) → Ext H H' → Q (.tuple [v, .int .i64 (circleE m s)]) H') : AC Try.prog 39 [.int .i64 m, .int .i64 s] H Q := by
  refine L_body 41 Try.func39 rfl rfl ?_
  refine L_reg [0, 1] (fun K hK => ?_)
  simp
  apply hK; clear hK K
  unfold nearR at h
  by_cases h0 : circleE m s = 0
  · simp only [h0, if_true] at h
    have hv : wholeV m s = WV m s (per m.toNat s.toNat : Nat) := by rw [wholeV, if_pos h0]
    refine L_reg [6, 7] (fun K hK => ?_)
    simp [okFn_low]
    refine whole_ac m s _ _ ?_
    simp [alloc_z zt23, hv, h0, WV, newW]
    apply hK; clear hK K
    obtain ⟨m, s, rfl, rfl, a1, a2, a3⟩ := circleE_zero h0
    obtain ⟨H1, e, hE, hl1, r1, b⟩ := box3 H m s (per m s : Nat)
    simp only [Int.toNat_natCast] at h ⊢
    rw [e]
    generalize hp : H.length = p at *
    refine L_reg [6, 7, 19] (fun K hK => ?_)
    simp
    apply hK; clear hK K
    refine L_false (by simp) ?_
    refine L_reg [6, 8] (fun K hK => ?_)
    simp
    apply hK; clear hK K
    refine L_reg [6, 8, 9] (fun K hK => ?_)
    simp [b.l0]
    apply hK; clear hK K
    refine L_reg [6, 8, 9, 10] (fun K hK => ?_)
    simp
    apply hK; clear hK K
    have hpm := per_le m s
    refine L_block (L_loopV [8, 9, 10] (fun n vs H' => ∃ (k : Nat) (v : AV), n = per m s - k ∧ k ≤ per m s ∧ vs = [v, .int .i64 (nrS m s k).2, .int .i64 ((k : Int) + 1)] ∧ OwnF H1.length H' v ((nrS m s k).1.map (.int .i64)) ∧ Ext H1 H') _ [.slice none 0 0 0 1 false, .int .i64 (m : Nat), .int .i64 1] rfl ⟨0, _, rfl, by omega, rfl, .nil _ _, .refl _⟩ ?_)
    rintro n _ H2 ⟨k, v, rfl, hk, rfl, hO, hE2⟩
    have b2 := b.ext hE2
    refine L_reg [6, 8, 9, 10, 26] (fun K hK => ?_)
    simp [b2.l2]
    apply hK; clear hK K
    have hle := nrS_le (m := m) (s := s) k
    refine L_dec ((k : Int) + 1 ≤ per m s) (by simp) (fun hlt => ?_) (fun hge => L_exit ?_)
    · refine L_block ?_
      have hsucc : nrS m s (k + 1) = if distN m s (k + 1) < (nrS m s k).2 then ((nrS m s k).1 ++ [((k + 1 : Nat) : Int)], distN m s (k + 1)) else nrS m s k := rfl
      have hdd := dist_ac m s (k + 1) (per m s : Nat) a1 a2 a3 (by omega) H2
      have hk1 : ((k + 1 : Nat) : Int) = (k : Int) + 1 := by omega
      rw [hk1] at hdd hsucc
      generalize distN m s (k + 1) = d at hdd hsucc
      generalize hnr : nrS m s k = nn at hO hle hsucc
      obtain ⟨L, nr⟩ := nn
      simp only at hO hle hsucc
      refine L_reg [6, 8, 9, 10, 11] (fun K hK => ?_)
      simp [okFn_low, b2.la]
      refine hdd _ ?_
      simp
      apply hK; clear hK K
      refine L_reg [6, 8, 9, 10, 11, 34] (fun K hK => ?_)
      simp
      apply hK; clear hK K
      refine L_dec (d < nr) (by simp) (fun hd => ?_) (fun hd => ?_)
      · rw [if_pos hd] at hsucc
        obtain ⟨v', H3, happ, hO3, hE3⟩ := ownF_append hE2 el36 el36 (x := .int .i64 ((k : Int) + 1)) (m := 1) hO rfl (by simp; omega)
        refine L_reg [6, 8, 9, 10] (fun K hK => ?_)
        simp
        apply hK; clear hK K
        refine L_reg [6, 8, 9, 10] (fun K hK => ?_)
        simp [happ]
        apply hK; clear hK K
        refine L_reg [6, 8, 9, 10] (fun K hK => ?_)
        simp [wrap_i64 (a := (k : Int) + 1 + 1) (by omega)]
        apply hK; clear hK K
        refine ⟨per m s - (k + 1), [v', .int .i64 d, .int .i64 ((k : Int) + 1 + 1)], by omega, by simp, k + 1, v', rfl, by omega, by rw [hsucc]; simp, by rw [hsucc]; simpa using hO3, hE3⟩
      · rw [if_neg hd] at hsucc
        refine L_reg [6, 8, 9, 10] (fun K hK => ?_)
        simp [wrap_i64 (a := (k : Int) + 1 + 1) (by omega)]
        apply hK; clear hK K
        refine ⟨per m s - (k + 1), [v, .int .i64 nr, .int .i64 ((k : Int) + 1 + 1)], by omega, by simp, k + 1, v, rfl, by omega, by rw [hsucc]; simp, by rw [hsucc]; exact hO, hE2⟩
    · have hk' : k = per m s := by omega
      refine L_reg [4, 5] (fun K hK => ?_)
      simp
      apply hK; clear hK K
      exact L_ret ⟨.inr rfl, _, rfl, h v H2 (by rw [← hk']; exact hO.mono (by omega)) (hE.trans hE2)⟩
  · simp only [if_neg h0] at h
    have hv : wholeV m s = WV 0 0 0 := by rw [wholeV, if_neg h0]
    refine L_reg [6, 7] (fun K hK => ?_)
    simp [okFn_low]
    refine whole_ac m s _ _ ?_
    simp [alloc_z zt23, hv, WV, newW]
    apply hK; clear hK K
    refine L_reg [6, 7, 19] (fun K hK => ?_)
    simp
    apply hK; clear hK K
    refine L_true (by simp [h0]) ?_
    refine L_reg [4, 5] (fun K hK => ?_)
    simp
    apply hK; clear hK K
    exact L_ret ⟨.inr rfl, _, rfl, h _ _ (.nil _ _) (.push _ _)⟩
end Go.Proofs.Ytjfmiohgkcjdnaa
