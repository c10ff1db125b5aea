/- The reference: turns beside; WrapTurns, walked. -/
import Derived.Test.YtjfmiohgkcjdnaaRe
namespace Go.Proofs.Ytjfmiohgkcjdnaa
open Go Go.Proofs.Ytjfmiohgkcjdnaa.AX

theorem round_get {m s t i : Nat} (hm : 0 < m) (ht : t ≤ per m s) (hi : i < t) : ∃ y : Nat, y < t ∧ (roundS m s t)[i]? = some (y : Int) := by
  have hl := roundS_len hm ht
  obtain ⟨k, hk, e⟩ := (mem_roundS hm ht).1 (List.getElem_mem (l := roundS m s t) (n := i) (by omega))
  exact ⟨k, hk, by rw [List.getElem?_eq_getElem (by omega), e]⟩
theorem round_inj {m s t i j : Nat} {k : Int} (hm : 0 < m) (ht : t ≤ per m s) (hi : (roundS m s t)[i]? = some k) (hj : (roundS m s t)[j]? = some k) : i = j := by
  have hl := roundS_len hm ht
  obtain ⟨hi1, hi2⟩ := List.getElem?_eq_some_iff.1 hi
  obtain ⟨hj1, hj2⟩ := List.getElem?_eq_some_iff.1 hj
  have e : mkR m s t i = mkR m s t j := by rw [mkR_get hi1, mkR_get hj1, hi2, hj2]
  rcases Nat.lt_trichotomy i j with h | h | h
  · have := mkR_lt hm ht h (by omega); omega
  · exact h
  · have := mkR_lt hm ht h (by omega); omega
theorem rbeside_ac0 (m s t k p i : Nat) (y : Int) (h1 : 1 ≤ m) (h2 : m ≤ 100) (h3 : s < m) (h5 : t ≤ per m s) (hi : i < t) (hp : p ≤ 1000) (hk : (roundS m s t)[i]? = some (k : Int)) (hy : (roundS m s t)[(i + p) % t]? = some y) (H : AH) (Q : AV → AH → Prop) (h : ∀ H', Ext H H' → Q (.int .i64 y) H') : AC Try.prog 70 [WV m s t, .int .i64 k, .int .i64 p] H Q := by
  refine L_body 32 Try.func70 rfl rfl ?_
  refine L_reg [1, 2, 3] (fun K hK => ?_)
  simp [AV.isU, acells, WV]
  apply hK; clear hK K
  obtain ⟨H1, e, hE, -, -, b⟩ := box3 H m s t
  rw [e]
  refine L_reg [1, 2, 7] (fun K hK => ?_)
  simp [okFn_low, b.la]
  refine rround_ac m s t h1 h2 h3 h5 _ _ (fun v H2 hO hE2 => ?_)
  simp
  apply hK; clear hK K
  have hinj := fun j (hj : (roundS m s t)[j]? = some (k : Int)) => round_inj (by omega) h5 hj hk
  have hpm := per_le m s
  have hl := roundS_len (show 0 < m by omega) h5
  have hLs : Ls H2 v (roundS m s t) := hO.own.ls
  clear hO
  generalize roundS m s t = L at *
  refine L_reg [1, 2, 7, 8] (fun K hK => ?_)
  simp
  apply hK; clear hK K
  obtain ⟨r, off, ver, sz, full, rfl, hld⟩ := hLs
  refine L_block (L_loopV [8] (fun n vs H' => ∃ j : Nat, n = i - j ∧ j ≤ i ∧ vs = [.int .i64 j] ∧ H2 = H') _ [.int .i64 0] rfl ⟨0, rfl, by omega, rfl, rfl⟩ ?_)
  rintro n _ _ ⟨j, rfl, hj, rfl, rfl⟩
  refine L_reg [1, 2, 7, 8, 14] (fun K hK => ?_)
  simp [hl]
  apply hK; clear hK K
  refine L_true (by simp; omega) ?_
  refine L_block ?_
  obtain ⟨r', rfl, rfl, hrd⟩ := hld j (by omega)
  have hne : t ≠ 0 := by omega
  by_cases hji : j = i
  · subst hji
    have ek : L[j] = (k : Int) := by rw [List.getElem?_eq_getElem (by omega)] at hk; exact Option.some.inj hk
    rw [ek] at hrd
    refine L_reg [1, 2, 7, 8, 22] (fun K hK => ?_)
    simp [hrd, hi]
    apply hK; clear hK K
    refine L_true (by simp) ?_
    have hlt : (j + p) % t < t := Nat.mod_lt _ (by omega)
    obtain ⟨r3, hr3, -, hrd2⟩ := hld ((j + p) % t) (by omega)
    cases hr3
    have ey : L[(j + p) % t] = y := by rw [List.getElem?_eq_getElem (by omega)] at hy; exact Option.some.inj hy
    rw [ey] at hrd2
    clear ey
    have e2 : ((j : Int) + p).tmod t = (((j + p) % t : Nat) : Int) := by
      rw [show (j : Int) + p = ((j + p : Nat) : Int) by omega, Int.tmod_eq_emod_of_nonneg (by omega)]; rfl
    generalize (j + p) % t = jj at *
    refine L_reg [6] (fun K hK => ?_)
    simp [wrap_i64 (a := (j : Int) + p) (by omega), hne, e2, hrd2, show (jj : Int) < t by omega]
    apply hK; clear hK K
    exact L_ret ⟨.inr rfl, _, rfl, h _ (hE.trans hE2)⟩
  · have ek : L[j] ≠ (k : Int) := fun e => hji (hinj j (by rw [List.getElem?_eq_getElem (by omega), e]))
    generalize L[j]'(by omega) = x at hrd ek
    refine L_reg [1, 2, 7, 8, 22] (fun K hK => ?_)
    simp [hrd, show (j : Int) < t by omega, show j < t by omega]
    apply hK; clear hK K
    refine L_false (by simp [ek]) ?_
    refine L_reg [1, 2, 7, 8] (fun K hK => ?_)
    simp [wrap_i64 (a := (j : Int) + 1) (by omega)]
    apply hK; clear hK K
    exact ⟨i - (j + 1), [.int .i64 ((j + 1 : Nat) : Int)], by omega, by simp [hl], j + 1, rfl, by omega, rfl, rfl⟩
theorem rbeside_ac (m s t k p i : Nat) (y : Int) (h1 : 1 ≤ m) (h2 : m ≤ 100) (h3 : s < m) (h5 : t ≤ per m s) (hi : i < t) (hp : p ≤ 1000) (hk : (roundS m s t)[i]? = some (k : Int)) (hy : (roundS m s t)[(i + p) % t]? = some y) (H : AH) (Q : AV → AH → Prop) (h : Q (.int .i64 y) H) : AC Try.prog 70 [WV m s t, .int .i64 k, .int .i64 p] H Q :=
  AC.quiet (belB_int _ _ _ _) (fun Q h => rbeside_ac0 m s t k p i y h1 h2 h3 h5 hi hp hk hy H Q h) Q h
theorem rNext_ac0 (m s t k : Int) (H : AH) (Q : AV → AH → Prop) (h : ∀ H', Ext H H' → Q (.tuple [.int .i64 (nextS m s t k).1, .int .i64 (nextS m s t k).2]) H') : AC Try.prog 23 [WV m s t, .int .i64 k] H Q := by
  refine L_body 20 Try.func23 rfl rfl ?_
  refine L_reg [1, 2] (fun K hK => ?_)
  simp [AV.isU, acells, WV]
  apply hK; clear hK K
  obtain ⟨H1, e, hE, -, -, b⟩ := box3 H m s t
  rw [e]
  refine L_reg [1, 2, 7] (fun K hK => ?_)
  simp [okFn_low, b.la]
  refine rMark_ac m s t k _ _ ?_
  simp
  apply hK; clear hK K
  by_cases h0 : turnE m s t k = 0
  · have hm2 : (markS m s t k).2 = 0 := by unfold markS; rw [if_pos h0]
    refine L_reg [1, 2, 7, 15] (fun K hK => ?_)
    simp
    apply hK; clear hK K
    refine L_false (by simp [hm2]) ?_
    obtain ⟨m, s, t, k, rfl, rfl, rfl, rfl, a1, a2, a3, a4, a5, a6⟩ := turnE_zero h0
    obtain ⟨i, hi, hki, -⟩ := mkR_mem (z := k) (show 0 < m by omega) a5 a6
    obtain ⟨y, hy, hyi⟩ := round_get (i := (i + 1) % t) (show 0 < m by omega) a5 (Nat.mod_lt _ (by omega))
    have hnb := nb_ahead (met := k) (show 0 < m by omega) (Nat.le_refl t) a5 hi hki hyi hy
    refine L_reg [4, 5] (fun K hK => ?_)
    simp [okFn_low, b.la]
    refine rbeside_ac m s t k 1 i y a1 a2 a3 a5 hi (by omega) hki hyi _ _ ?_
    simp
    apply hK; clear hK K
    exact L_ret ⟨.inr rfl, _, rfl, by simpa [nextS, h0, hnb] using h _ hE⟩
  · have hm2 : (markS m s t k).2 = turnE m s t k := by unfold markS; rw [if_neg h0]
    refine L_reg [1, 2, 7, 15] (fun K hK => ?_)
    simp
    apply hK; clear hK K
    refine L_true (by simp [hm2, h0]) ?_
    refine L_reg [4, 5] (fun K hK => ?_)
    simp
    apply hK; clear hK K
    exact L_ret ⟨.inr rfl, _, rfl, by simpa [nextS, h0, hm2] using h _ hE⟩
theorem rNext_ac (m s t k : Int) (H : AH) (Q : AV → AH → Prop) (h : Q (.tuple [.int .i64 (nextS m s t k).1, .int .i64 (nextS m s t k).2]) H) : AC Try.prog 23 [WV m s t, .int .i64 k] H Q :=
  AC.quiet (by simp [belB]) (fun Q h => rNext_ac0 m s t k H Q h) Q h
theorem rBefore_ac0 (m s t k : Int) (H : AH) (Q : AV → AH → Prop) (h : ∀ H', Ext H H' → Q (.tuple [.int .i64 (beforeS m s t k).1, .int .i64 (beforeS m s t k).2]) H') : AC Try.prog 25 [WV m s t, .int .i64 k] H Q := by
  refine L_body 23 Try.func25 rfl rfl ?_
  refine L_reg [1, 2] (fun K hK => ?_)
  simp [AV.isU, acells, WV]
  apply hK; clear hK K
  obtain ⟨H1, e, hE, -, -, b⟩ := box3 H m s t
  rw [e]
  refine L_reg [1, 2, 7] (fun K hK => ?_)
  simp [okFn_low, b.la]
  refine rMark_ac m s t k _ _ ?_
  simp
  apply hK; clear hK K
  by_cases h0 : turnE m s t k = 0
  · have hm2 : (markS m s t k).2 = 0 := by unfold markS; rw [if_pos h0]
    refine L_reg [1, 2, 7, 15] (fun K hK => ?_)
    simp
    apply hK; clear hK K
    refine L_false (by simp [hm2]) ?_
    obtain ⟨m, s, t, k, rfl, rfl, rfl, rfl, a1, a2, a3, a4, a5, a6⟩ := turnE_zero h0
    have hpm := per_le m s
    obtain ⟨i, hi, hki, -⟩ := mkR_mem (z := k) (show 0 < m by omega) a5 a6
    obtain ⟨y, hy, hyi⟩ := round_get (i := (i + (t - 1)) % t) (show 0 < m by omega) a5 (Nat.mod_lt _ (by omega))
    have hnb := nb_behind (met := k) (show 0 < m by omega) (Nat.le_refl t) a5 hi hki hyi hy
    have hrb := rbeside_ac m s t k (t - 1) i y a1 a2 a3 a5 hi (by omega) hki hyi
    rw [show ((t - 1 : Nat) : Int) = (t : Int) - 1 by omega] at hrb
    refine L_reg [4, 5] (fun K hK => ?_)
    simp [okFn_low, b.la, b.l2, wrap_i64 (a := (t : Int) - 1) (by omega)]
    refine hrb _ _ ?_
    simp
    apply hK; clear hK K
    exact L_ret ⟨.inr rfl, _, rfl, by simpa [beforeS, h0, hnb] using h _ hE⟩
  · have hm2 : (markS m s t k).2 = turnE m s t k := by unfold markS; rw [if_neg h0]
    refine L_reg [1, 2, 7, 15] (fun K hK => ?_)
    simp
    apply hK; clear hK K
    refine L_true (by simp [hm2, h0]) ?_
    refine L_reg [4, 5] (fun K hK => ?_)
    simp
    apply hK; clear hK K
    exact L_ret ⟨.inr rfl, _, rfl, by simpa [beforeS, h0, hm2] using h _ hE⟩
theorem rBefore_ac (m s t k : Int) (H : AH) (Q : AV → AH → Prop) (h : Q (.tuple [.int .i64 (beforeS m s t k).1, .int .i64 (beforeS m s t k).2]) H) : AC Try.prog 25 [WV m s t, .int .i64 k] H Q :=
  AC.quiet (by simp [belB]) (fun Q h => rBefore_ac0 m s t k H Q h) Q h
theorem rDivides_ac0 (m s t : Int) (H : AH) (Q : AV → AH → Prop) (h : ∀ H', Ext H H' → Q (.tuple [.int .i64 (dividesS m s t).1, .int .i64 (dividesS m s t).2.1, .int .i64 (dividesS m s t).2.2]) H') : AC Try.prog 27 [WV m s t] H Q := by
  refine L_body 37 Try.func27 rfl rfl ?_
  refine L_reg [1] (fun K hK => ?_)
  simp [AV.isU, acells, WV]
  apply hK; clear hK K
  obtain ⟨H1, e, hE, hl1, r1, b⟩ := box3 H m s t
  rw [e]
  refine L_reg [1, 5] (fun K hK => ?_)
  simp [okFn_low, b.la]
  refine rCheck_ac m s t _ _ ?_
  simp
  apply hK; clear hK K
  by_cases h0 : checkE m s t = 0
  · obtain ⟨m, s, t, rfl, rfl, rfl, a1, a2, a3, a4, a5⟩ := checkE_zero h0
    have hpm := per_le m s
    refine L_regQ mixed [1, 5, 17] (by kernel_rfl) (fun K hK => ?_)
    simp [okFn_low, b.l2, b.la, h0]
    refine exQ_mk (fun Q hQ => rdiff_ac m s t (by omega) (by omega) (by omega) H1 Q hQ) ?_
    simp [pickV]
    apply hK; clear hK K
    by_cases h1 : t = per m s
    · refine L_true (by simp [h1]) ?_
      refine L_reg [1, 5] (fun K hK => ?_)
      simp
      apply hK; clear hK K
      refine L_reg [1, 5, 19] (fun K hK => ?_)
      simp
      apply hK; clear hK K
      refine L_true (by simp) ?_
      refine L_reg [2, 3, 4] (fun K hK => ?_)
      simp
      apply hK; clear hK K
      have hd : dividesS m s t = (0, 0, 12) := by unfold dividesS; rw [if_pos h0, if_pos (by simp only [Int.toNat_natCast]; omega)]
      exact L_ret ⟨.inr rfl, _, rfl, by have h2 := h _ hE; rw [hd] at h2; exact h2⟩
    · refine L_false (by simp; omega) ?_
      refine L_reg [1, 5, 19] (fun K hK => ?_)
      simp
      apply hK; clear hK K
      refine L_false (by simp) ?_
      have hd : dividesS m s t = (((nbS m s t 1 m (t * s % m) t : Nat) : Int), ((nbS m s t 0 m (t * s % m) t : Nat) : Int), 0) := by unfold dividesS; rw [if_pos h0, if_neg (by simp only [Int.toNat_natCast]; omega)]; rfl
      have hm0 : 0 < m := by omega
      have ht2 : t + 1 ≤ per m s := by omega
      obtain ⟨i, hi, hki, -⟩ := mkR_mem (z := t) hm0 ht2 (by omega)
      obtain ⟨y, hy, hyi⟩ := round_get (i := (i + 1) % (t + 1)) hm0 ht2 (Nat.mod_lt _ (by omega))
      obtain ⟨z, hz, hzi⟩ := round_get (i := (i + (t + 1 - 1)) % (t + 1)) hm0 ht2 (Nat.mod_lt _ (by omega))
      have hyt : y < t := by
        rcases Nat.lt_or_ge y t with h | h
        · exact h
        · have : y = t := by omega
          subst this
          have := round_inj hm0 ht2 hki hyi
          by_cases h3 : i + 1 < y + 1
          · rw [Nat.mod_eq_of_lt h3] at this; omega
          · rw [show i + 1 = y + 1 by omega, Nat.mod_self] at this; omega
      have hzt : z < t := by
        rcases Nat.lt_or_ge z t with h | h
        · exact h
        · have : z = t := by omega
          subst this
          have := round_inj hm0 ht2 hki hzi
          by_cases h3 : i = 0
          · subst h3; rw [Nat.mod_eq_of_lt (by omega)] at this; omega
          · rw [show i + (z + 1 - 1) = (i - 1) + (z + 1) by omega, Nat.add_mod_right, Nat.mod_eq_of_lt (by omega)] at this; omega
      have hnb1 := nb_ahead (met := t) hm0 (Nat.le_succ t) ht2 hi hki hyi hyt
      have hnb2 := nb_behind (met := t) hm0 (Nat.le_succ t) ht2 hi hki hzi hzt
      rw [hnb1, hnb2] at hd
      simp only [Nat.add_sub_cancel] at hzi
      have hb1 := rbeside_ac m s (t + 1) t 1 i y a1 a2 a3 ht2 hi (by omega) hki hyi
      have hb2 := rbeside_ac m s (t + 1) t t i z a1 a2 a3 ht2 hi (by omega) hki hzi
      rw [show ((t + 1 : Nat) : Int) = (t : Int) + 1 by omega] at hb1 hb2
      unfold WV at hb1 hb2
      refine L_reg [1, 6] (fun K hK => ?_)
      simp [b.la, alloc_z zt24, newV]
      apply hK; clear hK K
      obtain ⟨H2, e2, hE2, hl2, r2, c⟩ := box3 H1 m s t
      rw [e2]
      have b2 := b.ext hE2
      have hne : H1.length ≠ H.length := by omega
      refine L_reg [1, 6] (fun K hK => ?_)
      simp [c.l2, setT r2, wrap_i64 (a := (t : Int) + 1) (by omega)]
      apply hK; clear hK K
      have r3 := get_set (o' := AObj.row [.int .i64 m, .int .i64 s, .int .i64 ((t : Int) + 1)] 0 0 false) r2
      have c3 := Bx.row r3
      have b3 : Bx (H2.set H1.length (AObj.row [.int .i64 m, .int .i64 s, .int .i64 ((t : Int) + 1)] 0 0 false)) H.length m s t := Bx.row (st := 0) (ro := false) (by rw [set_ne hne]; exact hE2.row r1)
      have hE3 : Ext H (H2.set H1.length (AObj.row [.int .i64 m, .int .i64 s, .int .i64 ((t : Int) + 1)] 0 0 false)) := (hE.trans hE2).set _ (by omega)
      generalize H2.set H1.length (AObj.row [.int .i64 m, .int .i64 s, .int .i64 ((t : Int) + 1)] 0 0 false) = H3 at *
      refine L_regQ mixed [2, 3, 4] (by kernel_rfl) (fun K hK => ?_)
      simp [okFn_low, c3.la, c3.l2, b3.l2, wrap_i64 (a := (t : Int)) (by omega)]
      refine exQ_mk (fun Q hQ => hb2 H3 Q hQ) ?_
      simp [okFn_low, c3.la, b3.l2]
      refine exQ_mk (fun Q hQ => hb1 H3 Q hQ) ?_
      simp
      apply hK; clear hK K
      exact L_ret ⟨.inr rfl, _, rfl, by have h2 := h _ hE3; rw [hd] at h2; exact h2⟩
  · have hb : (checkE m s t == 0) = false := by simpa using h0
    refine L_regQ mixed [1, 5, 17] (by kernel_rfl) (fun K hK => ?_)
    simp [pickV, hb]
    apply hK; clear hK K
    refine L_false (by simp) ?_
    refine L_reg [1, 5, 19] (fun K hK => ?_)
    simp
    apply hK; clear hK K
    refine L_true (by simp [h0]) ?_
    refine L_reg [2, 3, 4] (fun K hK => ?_)
    simp
    apply hK; clear hK K
    have hd : dividesS m s t = (0, 0, checkE m s t) := by unfold dividesS; rw [if_neg h0]
    exact L_ret ⟨.inr rfl, _, rfl, by have h2 := h _ hE; rw [hd] at h2; exact h2⟩
theorem rDivides_ac (m s t : Int) (H : AH) (Q : AV → AH → Prop) (h : Q (.tuple [.int .i64 (dividesS m s t).1, .int .i64 (dividesS m s t).2.1, .int .i64 (dividesS m s t).2.2]) H) : AC Try.prog 27 [WV m s t] H Q :=
  AC.quiet (by simp [belB]) (fun Q h => rDivides_ac0 m s t H Q h) Q h
set_option maxHeartbeats 800000 in
theorem wrapTurns_ac (m s t k w : Int) (H : AH) : AC Try.prog 3 [WV m s t, .int .i64 k, .int .i64 w] H fun u _ => u = .bool true := by
  refine L_body 144 Try.func3 rfl rfl ?_
  refine L_reg [1, 2, 3] (fun K hK => ?_)
  simp [AV.isU, acells, WV]
  apply hK; clear hK K
  obtain ⟨H1, e, hE, hl1, r1, b⟩ := box3 H m s t
  rw [e]
  refine L_reg [1, 2, 3, 7] (fun K hK => ?_)
  simp [b.la, alloc_z zt24, newV]
  apply hK; clear hK K
  obtain ⟨H2, e2, hE2, hl2, r2, c⟩ := box3 H1 m s t
  rw [e2]
  have b2 := b.ext hE2
  generalize H.length = p at *
  generalize H1.length = q at *
  clear hl1 r1 hl2 r2 hE2 hE e e2 b H1
  refine L_reg [1, 2, 3, 7, 8, 9] (fun K hK => ?_)
  simp [okFn_low, b2.la]
  refine Mark_ac m s t k _ _ ?_
  simp
  apply hK; clear hK K
  refine L_reg [1, 2, 3, 7, 8, 9, 10, 11] (fun K hK => ?_)
  simp [okFn_low, c.la]
  refine rMark_ac m s t k _ _ ?_
  simp
  apply hK; clear hK K
  refine L_reg [1, 2, 3, 7, 8, 9, 10, 11, 12, 13] (fun K hK => ?_)
  simp [okFn_low, b2.la]
  refine Which_ac m s t w _ _ ?_
  simp
  apply hK; clear hK K
  refine L_reg [1, 3, 7, 8, 9, 10, 11, 12, 13, 14, 15] (fun K hK => ?_)
  simp [okFn_low, c.la]
  refine rWhich_ac m s t w _ _ ?_
  simp
  apply hK; clear hK K
  refine L_regQ mixed [1, 3, 7, 71] (by kernel_rfl) (fun K hK => ?_)
  simp [okFn_low, pickV, b2.la]
  refine exQ_mk (fun Q hQ => Check_ac m s t H2 Q hQ) ?_
  simp [okFn_low, c.la]
  refine exQ_mk (fun Q hQ => rCheck_ac m s t H2 Q hQ) ?_
  simp [pickV]
  apply hK; clear hK K
  refine L_false (by simp) ?_
  refine L_reg [1, 3, 7, 8, 9] (fun K hK => ?_)
  simp [okFn_low, b2.la]
  refine Next_ac m s t k _ _ ?_
  simp
  apply hK; clear hK K
  refine L_reg [1, 3, 7, 8, 9, 10, 11] (fun K hK => ?_)
  simp [okFn_low, c.la]
  refine rNext_ac m s t k _ _ ?_
  simp
  apply hK; clear hK K
  refine L_reg [1, 3, 7, 8, 9, 10, 11, 12, 13] (fun K hK => ?_)
  simp [okFn_low, b2.la]
  refine Before_ac m s t k _ _ ?_
  simp
  apply hK; clear hK K
  refine L_reg [3, 7, 8, 9, 10, 11, 12, 13, 14, 15] (fun K hK => ?_)
  simp [okFn_low, c.la]
  refine rBefore_ac m s t k _ _ ?_
  simp
  apply hK; clear hK K
  refine L_reg [7, 8, 9, 10, 11, 12, 13, 14, 15, 16, 17, 18] (fun K hK => ?_)
  simp [okFn_low, b2.la]
  refine Divides_ac m s t _ _ ?_
  simp
  apply hK; clear hK K
  refine L_reg [8, 9, 10, 11, 12, 13, 14, 15, 16, 17, 18, 19, 20, 21] (fun K hK => ?_)
  simp [okFn_low, c.la]
  refine rDivides_ac m s t _ _ ?_
  simp
  apply hK; clear hK K
  refine L_reg [6] (fun K hK => ?_)
  simp [okFn_low, pickV]
  refine works_ac _ _ ?_
  simp [pickV]
  apply hK; clear hK K
  exact L_ret ⟨.inr rfl, _, rfl, rfl⟩
theorem wrapper_int {n : List Int} (e : n.length = 3) : ∃ x y z, n = [x, y, z] := by
  match n, e with
  | [x, y, z], _ => exact ⟨x, y, z, rfl⟩
theorem wrapGaps_int (n : List Int) (e : n.length = 3) (H : AH) : AC Try.prog 4 [.agg (n.map (.int .i64))] H fun u _ => u = .bool true := by
  obtain ⟨x, y, z, rfl⟩ := wrapper_int e
  exact wrapGaps_ac x y z H
theorem wrapTurns_int (n : List Int) (e : n.length = 3) (k w : Int) (H : AH) : AC Try.prog 3 [.agg (n.map (.int .i64)), .int .i64 k, .int .i64 w] H fun u _ => u = .bool true := by
  obtain ⟨x, y, z, rfl⟩ := wrapper_int e
  exact wrapTurns_ac x y z k w H
end Go.Proofs.Ytjfmiohgkcjdnaa
