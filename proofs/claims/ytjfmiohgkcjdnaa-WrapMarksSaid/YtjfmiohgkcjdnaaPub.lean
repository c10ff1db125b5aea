/- What the package answers: which turn follows, gaps, even numbers of turns. -/
import Derived.Test.YtjfmiohgkcjdnaaNb
import Derived.Test.YtjfmiohgkcjdnaaNear
namespace Go.Proofs.Ytjfmiohgkcjdnaa
open Go Go.Proofs.Ytjfmiohgkcjdnaa.AX

def nextS (m s t k : Int) : Int × Int := if turnE m s t k = 0 then ((nbS m.toNat s.toNat t.toNat 0 m.toNat (k.toNat * s.toNat % m.toNat) k.toNat : Nat), 0) else (0, turnE m s t k)
theorem Next_ac0 (m s t k : Int) (H : AH) (Q : AV → AH → Prop) (h : ∀ H', Ext H H' → Q (.tuple [.int .i64 (nextS m s t k).1, .int .i64 (nextS m s t k).2]) H') : AC Try.prog 22 [WV m s t, .int .i64 k] H Q := by
  refine L_body 16 Try.func22 rfl rfl ?_
  refine L_reg [1, 2] (fun K hK => ?_)
  simp [AV.isU, acells, WV]
  apply hK; clear hK K
  obtain ⟨H1, e, hE, -, -, b⟩ := box3 H m s t
  rw [e]
  refine L_reg [1, 2, 6] (fun K hK => ?_)
  simp [okFn_low, b.la]
  refine checkTurn_ac m s t k _ _ ?_
  simp
  apply hK; clear hK K
  refine L_reg [1, 2, 6, 11] (fun K hK => ?_)
  simp
  apply hK; clear hK K
  by_cases h0 : turnE m s t k = 0
  · refine L_false (by simp [h0]) ?_
    obtain ⟨m, s, t, k, rfl, rfl, rfl, rfl, a1, a2, a3, a4, a5, a6⟩ := turnE_zero h0
    refine L_reg [4, 5] (fun K hK => ?_)
    simp [okFn_low, b.la]
    refine neigh_ac m s t k 0 a1 a2 a3 a4 a5 (by omega) _ _ ?_
    simp
    apply hK; clear hK K
    exact L_ret ⟨.inr rfl, _, rfl, by simpa [nextS, h0] using h _ hE⟩
  · refine L_true (by simp [h0]) ?_
    refine L_reg [4, 5] (fun K hK => ?_)
    simp
    apply hK; clear hK K
    exact L_ret ⟨.inr rfl, _, rfl, by simpa [nextS, h0] using h _ hE⟩
theorem Next_ac (m s t k : Int) (H : AH) (Q : AV → AH → Prop) (h : Q (.tuple [.int .i64 (nextS m s t k).1, .int .i64 (nextS m s t k).2]) H) : AC Try.prog 22 [WV m s t, .int .i64 k] H Q :=
  AC.quiet (by simp [belB]) (fun Q h => Next_ac0 m s t k H Q h) Q h
def beforeS (m s t k : Int) : Int × Int := if turnE m s t k = 0 then ((nbS m.toNat s.toNat t.toNat 1 m.toNat (k.toNat * s.toNat % m.toNat) k.toNat : Nat), 0) else (0, turnE m s t k)
theorem Before_ac0 (m s t k : Int) (H : AH) (Q : AV → AH → Prop) (h : ∀ H', Ext H H' → Q (.tuple [.int .i64 (beforeS m s t k).1, .int .i64 (beforeS m s t k).2]) H') : AC Try.prog 24 [WV m s t, .int .i64 k] H Q := by
  refine L_body 16 Try.func24 rfl rfl ?_
  refine L_reg [1, 2] (fun K hK => ?_)
  simp [AV.isU, acells, WV]
  apply hK; clear hK K
  obtain ⟨H1, e, hE, -, -, b⟩ := box3 H m s t
  rw [e]
  refine L_reg [1, 2, 6] (fun K hK => ?_)
  simp [okFn_low, b.la]
  refine checkTurn_ac m s t k _ _ ?_
  simp
  apply hK; clear hK K
  refine L_reg [1, 2, 6, 11] (fun K hK => ?_)
  simp
  apply hK; clear hK K
  by_cases h0 : turnE m s t k = 0
  · refine L_false (by simp [h0]) ?_
    obtain ⟨m, s, t, k, rfl, rfl, rfl, rfl, a1, a2, a3, a4, a5, a6⟩ := turnE_zero h0
    refine L_reg [4, 5] (fun K hK => ?_)
    simp [okFn_low, b.la]
    refine neigh_ac m s t k 1 a1 a2 a3 a4 a5 (by omega) _ _ ?_
    simp
    apply hK; clear hK K
    exact L_ret ⟨.inr rfl, _, rfl, by simpa [beforeS, h0] using h _ hE⟩
  · refine L_true (by simp [h0]) ?_
    refine L_reg [4, 5] (fun K hK => ?_)
    simp
    apply hK; clear hK K
    exact L_ret ⟨.inr rfl, _, rfl, by simpa [beforeS, h0] using h _ hE⟩
theorem Before_ac (m s t k : Int) (H : AH) (Q : AV → AH → Prop) (h : Q (.tuple [.int .i64 (beforeS m s t k).1, .int .i64 (beforeS m s t k).2]) H) : AC Try.prog 24 [WV m s t, .int .i64 k] H Q :=
  AC.quiet (by simp [belB]) (fun Q h => Before_ac0 m s t k H Q h) Q h
def dividesS (m s t : Int) : Int × Int × Int := if checkE m s t = 0 then (if t = (per m.toNat s.toNat : Nat) then (0, 0, 12) else ((nbS m.toNat s.toNat t.toNat 1 m.toNat (t.toNat * s.toNat % m.toNat) t.toNat : Nat), (nbS m.toNat s.toNat t.toNat 0 m.toNat (t.toNat * s.toNat % m.toNat) t.toNat : Nat), 0)) else (0, 0, checkE m s t)
theorem Divides_ac0 (m s t : Int) (H : AH) (Q : AV → AH → Prop) (h : ∀ H', Ext H H' → Q (.tuple [.int .i64 (dividesS m s t).1, .int .i64 (dividesS m s t).2.1, .int .i64 (dividesS m s t).2.2]) H') : AC Try.prog 26 [WV m s t] H Q := by
  refine L_body 24 Try.func26 rfl rfl ?_
  refine L_reg [1] (fun K hK => ?_)
  simp [AV.isU, acells, WV]
  apply hK; clear hK K
  obtain ⟨H1, e, hE, -, -, b⟩ := box3 H m s t
  rw [e]
  refine L_reg [1, 5] (fun K hK => ?_)
  simp [okFn_low, b.la]
  refine Check_ac m s t _ _ ?_
  simp
  apply hK; clear hK K
  refine L_reg [1, 5, 9] (fun K hK => ?_)
  simp
  apply hK; clear hK K
  by_cases h0 : checkE m s t = 0
  · refine L_false (by simp [h0]) ?_
    obtain ⟨m, s, t, rfl, rfl, rfl, a1, a2, a3, a4, a5⟩ := checkE_zero h0
    refine L_regQ mixed [1, 15] (by kernel_rfl) (fun K hK => ?_)
    simp [okFn_low, b.l2, b.la]
    refine exQ_mk (fun Q hQ => differ_ac m s t (by omega) (by omega) (by omega) H1 Q hQ) ?_
    simp
    apply hK; clear hK K
    by_cases h1 : (t : Int) = (per m s : Nat)
    · refine L_true (by simp; omega) ?_
      refine L_reg [2, 3, 4] (fun K hK => ?_)
      simp
      apply hK; clear hK K
      have hd : dividesS m s t = (0, 0, 12) := by unfold dividesS; rw [if_pos h0, if_pos (by simpa using h1)]
      exact L_ret ⟨.inr rfl, _, rfl, by have h2 := h _ hE; rw [hd] at h2; exact h2⟩
    · refine L_false (by simp; omega) ?_
      refine L_regQ mixed [2, 3, 4] (by kernel_rfl) (fun K hK => ?_)
      simp [okFn_low, b.l2, b.la]
      refine exQ_mk (fun Q hQ => neigh_ac m s t t 1 a1 a2 a3 a4 a5 (by omega) H1 Q hQ) ?_
      simp [okFn_low, b.l2, b.la]
      refine exQ_mk (fun Q hQ => neigh_ac m s t t 0 a1 a2 a3 a4 a5 (by omega) H1 Q hQ) ?_
      simp
      apply hK; clear hK K
      have hd : dividesS m s t = (((nbS m s t 1 m (t * s % m) t : Nat) : Int), ((nbS m s t 0 m (t * s % m) t : Nat) : Int), 0) := by unfold dividesS; rw [if_pos h0, if_neg (by simpa using h1)]; rfl
      exact L_ret ⟨.inr rfl, _, rfl, by have h2 := h _ hE; rw [hd] at h2; exact h2⟩
  · refine L_true (by simp [h0]) ?_
    refine L_reg [2, 3, 4] (fun K hK => ?_)
    simp
    apply hK; clear hK K
    exact L_ret ⟨.inr rfl, _, rfl, by simpa [dividesS, h0] using h _ hE⟩
theorem Divides_ac (m s t : Int) (H : AH) (Q : AV → AH → Prop) (h : Q (.tuple [.int .i64 (dividesS m s t).1, .int .i64 (dividesS m s t).2.1, .int .i64 (dividesS m s t).2.2]) H) : AC Try.prog 26 [WV m s t] H Q :=
  AC.quiet (by simp [belB]) (fun Q h => Divides_ac0 m s t H Q h) Q h
def roundR (m s t : Int) : List Int := if checkE m s t = 0 then roundS m.toNat s.toNat t.toNat else []
theorem Round_ac (m s t : Int) (H : AH) (Q : AV → AH → Prop) (h : ∀ v H', OwnF H.length H' v ((roundR m s t).map (.int .i64)) → Ext H H' → Q (.tuple [v, .int .i64 (checkE m s t)]) H') : AC Try.prog 29 [WV m s t] H Q := by
  refine L_body 12 Try.func29 rfl rfl ?_
  refine L_reg [1] (fun K hK => ?_)
  simp [AV.isU, acells, WV]
  apply hK; clear hK K
  obtain ⟨H1, e, hE, -, -, b⟩ := box3 H m s t
  rw [e]
  refine L_reg [1, 4] (fun K hK => ?_)
  simp [okFn_low, b.la]
  refine Check_ac m s t _ _ ?_
  simp
  apply hK; clear hK K
  refine L_reg [1, 4, 8] (fun K hK => ?_)
  simp
  apply hK; clear hK K
  unfold roundR at h
  by_cases h0 : checkE m s t = 0
  · refine L_false (by simp [h0]) ?_
    rw [if_pos h0, h0] at h
    obtain ⟨m, s, t, rfl, rfl, rfl, a1, a2, a3, a4, a5⟩ := checkE_zero h0
    simp only [Int.toNat_natCast] at h
    refine L_reg [2, 3] (fun K hK => ?_)
    simp [okFn_low, b.la]
    refine roundOk m s t a1 a2 a3 a5 _ _ (fun v H2 hO hE2 => ?_)
    simp
    apply hK; clear hK K
    exact L_ret ⟨.inr rfl, _, rfl, h v H2 (hO.mono hE.1) (hE.trans hE2)⟩
  · refine L_true (by simp [h0]) ?_
    rw [if_neg h0] at h
    refine L_reg [2, 3] (fun K hK => ?_)
    simp
    apply hK; clear hK K
    exact L_ret ⟨.inr rfl, _, rfl, h _ _ (.nil _ _) hE⟩
def gapsR (m s t : Int) : List Int := if checkE m s t = 0 then gapsS m.toNat s.toNat t.toNat else []
theorem Gaps_ac (m s t : Int) (H : AH) (Q : AV → AH → Prop) (h : ∀ v H', OwnF H.length H' v ((gapsR m s t).map (.int .i64)) → Ext H H' → Q (.tuple [v, .int .i64 (checkE m s t)]) H') : AC Try.prog 31 [WV m s t] H Q := by
  refine L_body 12 Try.func31 rfl rfl ?_
  refine L_reg [1] (fun K hK => ?_)
  simp [AV.isU, acells, WV]
  apply hK; clear hK K
  obtain ⟨H1, e, hE, -, -, b⟩ := box3 H m s t
  rw [e]
  refine L_reg [1, 4] (fun K hK => ?_)
  simp [okFn_low, b.la]
  refine Check_ac m s t _ _ ?_
  simp
  apply hK; clear hK K
  refine L_reg [1, 4, 8] (fun K hK => ?_)
  simp
  apply hK; clear hK K
  unfold gapsR at h
  by_cases h0 : checkE m s t = 0
  · refine L_false (by simp [h0]) ?_
    rw [if_pos h0, h0] at h
    obtain ⟨m, s, t, rfl, rfl, rfl, a1, a2, a3, a4, a5⟩ := checkE_zero h0
    simp only [Int.toNat_natCast] at h
    refine L_reg [2, 3] (fun K hK => ?_)
    simp [okFn_low, b.la]
    refine gaps_ac m s t a1 a2 a3 a5 _ _ (fun v H2 hO hE2 => ?_)
    simp
    apply hK; clear hK K
    exact L_ret ⟨.inr rfl, _, rfl, h v H2 (hO.mono hE.1) (hE.trans hE2)⟩
  · refine L_true (by simp [h0]) ?_
    rw [if_neg h0] at h
    refine L_reg [2, 3] (fun K hK => ?_)
    simp
    apply hK; clear hK K
    exact L_ret ⟨.inr rfl, _, rfl, h _ _ (.nil _ _) hE⟩
def widthsR (m s t : Int) : List (Nat × Nat) := if checkE m s t = 0 then widthsS m.toNat s.toNat t.toNat else []
theorem Widths_ac (m s t : Int) (H : AH) (Q : AV → AH → Prop) (h : ∀ v H', OwnK 2 H.length H' v (prs (widthsR m s t)) → Ext H H' → Q (.tuple [v, .int .i64 (checkE m s t)]) H') : AC Try.prog 33 [WV m s t] H Q := by
  refine L_body 12 Try.func33 rfl rfl ?_
  refine L_reg [1] (fun K hK => ?_)
  simp [AV.isU, acells, WV]
  apply hK; clear hK K
  obtain ⟨H1, e, hE, -, -, b⟩ := box3 H m s t
  rw [e]
  refine L_reg [1, 4] (fun K hK => ?_)
  simp [okFn_low, b.la]
  refine Check_ac m s t _ _ ?_
  simp
  apply hK; clear hK K
  refine L_reg [1, 4, 8] (fun K hK => ?_)
  simp
  apply hK; clear hK K
  unfold widthsR at h
  by_cases h0 : checkE m s t = 0
  · refine L_false (by simp [h0]) ?_
    rw [if_pos h0, h0] at h
    obtain ⟨m, s, t, rfl, rfl, rfl, a1, a2, a3, a4, a5⟩ := checkE_zero h0
    simp only [Int.toNat_natCast] at h
    refine L_reg [2, 3] (fun K hK => ?_)
    simp [okFn_low, b.la]
    refine widths_ac m s t a1 a2 a3 a5 _ _ (fun v H2 hO hE2 => ?_)
    simp
    apply hK; clear hK K
    exact L_ret ⟨.inr rfl, _, rfl, h v H2 (⟨hO.1, hO.2.imp id fun ⟨r, ver, st, g1, g2⟩ => ⟨r, ver, st, Nat.le_trans hE.1 g1, g2⟩⟩) (hE.trans hE2)⟩
  · refine L_true (by simp [h0]) ?_
    rw [if_neg h0] at h
    refine L_reg [2, 3] (fun K hK => ?_)
    simp
    apply hK; clear hK K
    exact L_ret ⟨.inr rfl, _, rfl, h _ _ (OwnK.nil _ _ _) hE⟩
def evS (m s : Nat) (k : Nat) : List Int := ((List.range k).filter fun t => decide ((widthsS m s (t + 1)).length ≤ 2)).map fun (t : Nat) => ((t : Int) + 1)
theorem evS_succ (m s k : Nat) : evS m s (k + 1) = if (widthsS m s (k + 1)).length ≤ 2 then evS m s k ++ [(k : Int) + 1] else evS m s k := by
  unfold evS
  rw [List.range_succ, List.filter_append, List.map_append]
  by_cases h : (widthsS m s (k + 1)).length ≤ 2
  · rw [if_pos h]; simp [h]
  · rw [if_neg h]; simp [h]
theorem evS_len (m s k : Nat) : (evS m s k).length ≤ k := by
  unfold evS
  rw [List.length_map]
  have := List.length_filter_le (fun t => decide ((widthsS m s (t + 1)).length ≤ 2)) (List.range k)
  simpa using this
def evensR (m s : Int) : List Int := if circleE m s = 0 then evS m.toNat s.toNat (per m.toNat s.toNat) else []
set_option maxRecDepth 100000 in
theorem Evens_ac (m s : Int) (H : AH) (Q : AV → AH → Prop) (h : ∀ v H', OwnF H.length H' v ((evensR m s).map (.int .i64)) → Ext H H' → Q (.tuple [v, .int .i64 (circleE m s)]) H') : AC Try.prog 37 [.int .i64 m, .int .i64 s] H Q := by
  refine L_body 35 Try.func37 rfl rfl ?_
  refine L_reg [0, 1] (fun K hK => ?_)
  simp
  apply hK; clear hK K
  unfold evensR at h
  by_cases h0 : circleE m s = 0
  · simp only [h0, if_true] at h
    have hv : wholeV m s = WV m s (per m.toNat s.toNat : Nat) := by rw [wholeV, if_pos h0]
    refine L_reg [0, 1, 6, 7] (fun K hK => ?_)
    simp [okFn_low]
    refine whole_ac m s _ _ ?_
    simp [alloc_z zt23, hv, h0, WV, newW]
    apply hK; clear hK K
    obtain ⟨m, s, rfl, rfl, a1, a2, a3⟩ := circleE_zero h0
    obtain ⟨H1, e, hE, hl1, r1, b⟩ := box3 H m s (per m s : Nat)
    simp only [Int.toNat_natCast] at h ⊢
    rw [e]
    generalize hp : H.length = p at *
    refine L_reg [0, 1, 6, 7, 17] (fun K hK => ?_)
    simp
    apply hK; clear hK K
    refine L_false (by simp) ?_
    refine L_reg [0, 1, 6, 8] (fun K hK => ?_)
    simp
    apply hK; clear hK K
    refine L_reg [0, 1, 6, 8, 9] (fun K hK => ?_)
    simp
    apply hK; clear hK K
    have hpm := per_le m s
    refine L_block (L_loopV [8, 9] (fun n vs H' => ∃ (k : Nat) (v : AV), n = per m s - k ∧ k ≤ per m s ∧ vs = [v, .int .i64 ((k : Int) + 1)] ∧ OwnF H1.length H' v ((evS m s k).map (.int .i64)) ∧ Ext H1 H') _ [.slice none 0 0 0 1 false, .int .i64 1] rfl ⟨0, _, rfl, by omega, rfl, .nil _ _, .refl _⟩ ?_)
    rintro n _ H2 ⟨k, v, rfl, hk, rfl, hO, hE2⟩
    have b2 := b.ext hE2
    refine L_reg [0, 1, 6, 8, 9, 22] (fun K hK => ?_)
    simp [b2.l2]
    apply hK; clear hK K
    have hle := evS_len m s k
    refine L_dec ((k : Int) + 1 ≤ per m s) (by simp) (fun hlt => ?_) (fun hge => L_exit ?_)
    · refine L_block ?_
      have hsucc := evS_succ m s k
      have hdd := even_ac m s (k + 1) a1 a2 a3 (by omega) H2
      have hk1 : ((k + 1 : Nat) : Int) = (k : Int) + 1 := by omega
      rw [hk1] at hdd
      unfold WV at hdd
      refine L_reg [0, 1, 6, 8, 9, 29] (fun K hK => ?_)
      simp [okFn_low]
      refine hdd _ ?_
      simp
      apply hK; clear hK K
      refine L_dec ((widthsS m s (k + 1)).length ≤ 2) (by simp) (fun hd => ?_) (fun hd => ?_)
      · rw [if_pos hd] at hsucc
        obtain ⟨v', H3, happ, hO3, hE3⟩ := ownF_append hE2 el36 el36 (x := .int .i64 ((k : Int) + 1)) (m := 1) hO rfl (by simp; omega)
        refine L_reg [0, 1, 6, 8, 9] (fun K hK => ?_)
        simp [happ]
        apply hK; clear hK K
        refine L_reg [0, 1, 6, 8, 9] (fun K hK => ?_)
        simp [wrap_i64 (a := (k : Int) + 1 + 1) (by omega)]
        apply hK; clear hK K
        refine ⟨per m s - (k + 1), [v', .int .i64 ((k : Int) + 1 + 1)], by omega, by simp, k + 1, v', rfl, by omega, by simp, by rw [hsucc]; simpa using hO3, hE3⟩
      · rw [if_neg hd] at hsucc
        refine L_reg [0, 1, 6, 8, 9] (fun K hK => ?_)
        simp [wrap_i64 (a := (k : Int) + 1 + 1) (by omega)]
        apply hK; clear hK K
        refine ⟨per m s - (k + 1), [v, .int .i64 ((k : Int) + 1 + 1)], by omega, by simp, k + 1, v, rfl, by omega, by simp, by rw [hsucc]; exact hO, hE2⟩
    · have hk' : k = per m s := by omega
      refine L_reg [4, 5] (fun K hK => ?_)
      simp
      apply hK; clear hK K
      exact L_ret ⟨.inr rfl, _, rfl, h v H2 (by rw [← hk']; exact hO.mono (by omega)) (hE.trans hE2)⟩
  · simp only [if_neg h0] at h
    have hv : wholeV m s = WV 0 0 0 := by rw [wholeV, if_neg h0]
    refine L_reg [0, 1, 6, 7] (fun K hK => ?_)
    simp [okFn_low]
    refine whole_ac m s _ _ ?_
    simp [alloc_z zt23, hv, WV, newW]
    apply hK; clear hK K
    refine L_reg [0, 1, 6, 7, 17] (fun K hK => ?_)
    simp
    apply hK; clear hK K
    refine L_true (by simp [h0]) ?_
    refine L_reg [4, 5] (fun K hK => ?_)
    simp
    apply hK; clear hK K
    exact L_ret ⟨.inr rfl, _, rfl, h _ _ (.nil _ _) (.push _ _)⟩
end Go.Proofs.Ytjfmiohgkcjdnaa
