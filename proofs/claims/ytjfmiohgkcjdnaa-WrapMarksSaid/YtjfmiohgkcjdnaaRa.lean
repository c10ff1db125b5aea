/- The reference: wrappers are checked; turns and marks; turns around the circle, gaps, widths. -/
import Derived.Test.YtjfmiohgkcjdnaaPub
namespace Go.Proofs.Ytjfmiohgkcjdnaa
open Go Go.Proofs.Ytjfmiohgkcjdnaa.AX

theorem rin_ac (n lo hi : Int) (H : AH) (Q : AV → AH → Prop) (h : Q (.bool (decide (lo ≤ n ∧ n ≤ hi))) H) : AC Try.prog 61 [.int .i64 n, .int .i64 lo, .int .i64 hi] H Q := by
  refine L_body 15 Try.func61 rfl rfl ?_
  refine L_reg [0, 1, 2] (fun K hK => ?_)
  simp
  apply hK; clear hK K
  by_cases h1 : lo ≤ n
  · refine L_reg [6] (fun K hK => ?_)
    simp [pickV, h1]
    apply hK; clear hK K
    exact L_ret ⟨.inr rfl, _, rfl, by simpa [h1] using h⟩
  · refine L_reg [6] (fun K hK => ?_)
    simp [pickV, h1]
    apply hK; clear hK K
    exact L_ret ⟨.inr rfl, _, rfl, by simpa [h1] using h⟩
theorem rmark_ac0 (m s k : Nat) (t : Int) (hm : 0 < m) (hk : k * s ≤ 1000000) (H : AH) (Q : AV → AH → Prop) (h : ∀ H', Ext H H' → Q (.int .i64 (k * s % m : Nat)) H') : AC Try.prog 62 [WV m s t, .int .i64 k] H Q := by
  refine L_body 12 Try.func62 rfl rfl ?_
  refine L_reg [1, 2] (fun K hK => ?_)
  simp [AV.isU, acells, WV]
  apply hK; clear hK K
  obtain ⟨H1, e, hE, -, -, b⟩ := box3 H m s t
  rw [e]
  have hne : m ≠ 0 := by omega
  have hw : IntKind.i64.wrap ((k : Int) * s) = ((k * s : Nat) : Int) := by rw [wrap_i64] <;> push_cast <;> omega
  refine L_reg [4] (fun K hK => ?_)
  simp [b.l0, b.l1, hne, hw]
  apply hK; clear hK K
  have e2 : ((k : Int) * s).tmod m = ((k * s % m : Nat) : Int) := by rw [Int.tmod_eq_emod_of_nonneg (by omega)]; rfl
  have h2 := h _ hE
  rw [← e2] at h2
  exact L_ret ⟨.inr rfl, _, rfl, h2⟩
theorem rmark_ac (m s k : Nat) (t : Int) (hm : 0 < m) (hk : k * s ≤ 1000000) (H : AH) (Q : AV → AH → Prop) (h : Q (.int .i64 (k * s % m : Nat)) H) : AC Try.prog 62 [WV m s t, .int .i64 k] H Q :=
  AC.quiet (belB_int _ _ _ _) (fun Q h => rmark_ac0 m s k t hm hk H Q h) Q h
theorem rdiff_ac0 (m s : Nat) (t : Int) (h1 : 1 ≤ m) (h2 : m ≤ 100) (h3 : s < m) (H : AH) (Q : AV → AH → Prop) (h : ∀ H', Ext H H' → Q (.int .i64 (per m s : Nat)) H') : AC Try.prog 68 [WV m s t] H Q := by
  refine L_body 11 Try.func68 rfl rfl ?_
  refine L_reg [1] (fun K hK => ?_)
  simp [AV.isU, acells, WV]
  apply hK; clear hK K
  obtain ⟨H1, e, hE, -, -, b⟩ := box3 H m s t
  rw [e]
  refine L_reg [1, 3] (fun K hK => ?_)
  simp
  apply hK; clear hK K
  have hpm := per_le m s
  have hpp := per_pos (m := m) (s := s) (by omega)
  refine L_block (L_loopV [3] (fun n vs H' => ∃ k : Nat, n = per m s - k ∧ 1 ≤ k ∧ k ≤ per m s ∧ vs = [.int .i64 k] ∧ H1 = H') _ [.int .i64 1] rfl ⟨1, rfl, by omega, by omega, rfl, rfl⟩ ?_)
  rintro n _ _ ⟨k, rfl, hk1, hk, rfl, rfl⟩
  have hks : k * s ≤ 10000 := by
    calc k * s ≤ 100 * 100 := Nat.mul_le_mul (by omega) (by omega)
      _ ≤ 10000 := by decide
  have hpd := per_dvd (s := s) (k := k) (show 0 < m by omega)
  generalize hmk : k * s % m = mk at hpd
  refine L_reg [1, 3, 7] (fun K hK => ?_)
  simp [okFn_low, b.la]
  refine rmark_ac m s k t (by omega) (by omega) _ _ ?_
  simp [hmk]
  apply hK; clear hK K
  by_cases hkp : k = per m s
  · have h0 : mk = 0 := hpd.2 (by rw [hkp]; exact Nat.dvd_refl _)
    refine L_false (by simp [h0]) (L_exit ?_)
    refine L_reg [2] (fun K hK => ?_)
    simp
    apply hK; clear hK K
    exact L_ret ⟨.inr rfl, _, rfl, by rw [hkp]; exact h _ hE⟩
  · have h0 : mk ≠ 0 := fun h0 => by have := Nat.le_of_dvd (by omega) (hpd.1 h0); omega
    refine L_true (by simp [h0]) ?_
    refine L_block ?_
    refine L_reg [1, 3] (fun K hK => ?_)
    simp [wrap_i64 (a := (k : Int) + 1) (by omega)]
    apply hK; clear hK K
    exact ⟨per m s - (k + 1), [.int .i64 ((k + 1 : Nat) : Int)], by omega, by simp, k + 1, rfl, by omega, by omega, rfl, rfl⟩
theorem rdiff_ac (m s : Nat) (t : Int) (h1 : 1 ≤ m) (h2 : m ≤ 100) (h3 : s < m) (H : AH) (Q : AV → AH → Prop) (h : Q (.int .i64 (per m s : Nat)) H) : AC Try.prog 68 [WV m s t] H Q :=
  AC.quiet (belB_int _ _ _ _) (fun Q h => rdiff_ac0 m s t h1 h2 h3 H Q h) Q h
theorem rcircle_ac (m s : Int) (H : AH) (Q : AV → AH → Prop) (h : Q (.int .i64 (circleE m s)) H) : AC Try.prog 67 [.int .i64 m, .int .i64 s] H Q := by
  refine L_body 15 Try.func67 rfl rfl ?_
  refine L_reg [0, 1] (fun K hK => ?_)
  simp
  apply hK; clear hK K
  by_cases h1 : 1 ≤ m ∧ m ≤ 100
  · refine L_reg [14] (fun K hK => ?_)
    simp [okFn_low]
    refine rin_ac _ _ _ _ _ ?_
    simp [okFn_low, h1, wrap_i64 (a := m - 1) (by omega)]
    refine rin_ac _ _ _ _ _ ?_
    simp [pickV]
    apply hK; clear hK K
    by_cases h2 : 0 ≤ s ∧ s ≤ m - 1
    · refine L_false (by simp [h2]) ?_
      refine L_reg [4] (fun K hK => ?_)
      simp
      apply hK; clear hK K
      exact L_ret ⟨.inr rfl, _, rfl, by rw [circleE, if_neg (by omega)] at h; exact h⟩
    · refine L_true (by simp; omega) ?_
      refine L_reg [4] (fun K hK => ?_)
      simp
      apply hK; clear hK K
      exact L_ret ⟨.inr rfl, _, rfl, by rw [circleE, if_pos (by omega)] at h; exact h⟩
  · refine L_reg [14] (fun K hK => ?_)
    simp [okFn_low]
    refine rin_ac _ _ _ _ _ ?_
    simp [pickV, h1]
    apply hK; clear hK K
    refine L_true (by simp) ?_
    refine L_reg [4] (fun K hK => ?_)
    simp
    apply hK; clear hK K
    exact L_ret ⟨.inr rfl, _, rfl, by rw [circleE, if_pos (by omega)] at h; exact h⟩
def atI (m s w t : Nat) : Int := match atS m s w t 0 with | some k => k | none => -1
theorem rat_ac0 (m s t w : Nat) (h1 : 1 ≤ m) (h2 : m ≤ 100) (h3 : s < m) (h5 : t ≤ per m s) (H : AH) (Q : AV → AH → Prop) (h : ∀ H', Ext H H' → Q (.int .i64 (atI m s w t)) H') : AC Try.prog 65 [WV m s t, .int .i64 w] H Q := by
  refine L_body 18 Try.func65 rfl rfl ?_
  refine L_reg [1, 2] (fun K hK => ?_)
  simp [AV.isU, acells, WV]
  apply hK; clear hK K
  obtain ⟨H1, e, hE, -, -, b⟩ := box3 H m s t
  rw [e]
  refine L_reg [1, 2, 5] (fun K hK => ?_)
  simp
  apply hK; clear hK K
  have hpm := per_le m s
  unfold atI at h
  refine L_block (L_loopV [5] (fun n vs H' => ∃ k : Nat, n = t - k ∧ k ≤ t ∧ atS m s w (t - k) k = atS m s w t 0 ∧ vs = [.int .i64 k] ∧ H1 = H') _ [.int .i64 0] rfl ⟨0, rfl, by omega, rfl, rfl, rfl⟩ ?_)
  rintro n _ _ ⟨k, rfl, hk, ha, rfl, rfl⟩
  refine L_reg [1, 2, 5, 9] (fun K hK => ?_)
  simp [b.l2]
  apply hK; clear hK K
  refine L_dec (k < t) (by simp) (fun hlt => ?_) (fun hge => L_exit ?_)
  · refine L_block ?_
    have hks := bound (k := k) h2 h3 h5 (by omega)
    rw [show t - k = (t - (k + 1)) + 1 by omega, atS] at ha
    generalize hmk : k * s % m = mk at ha
    refine L_reg [1, 2, 5, 16] (fun K hK => ?_)
    simp [okFn_low, b.la]
    refine rmark_ac m s k t (by omega) (by omega) _ _ ?_
    simp [hmk]
    apply hK; clear hK K
    by_cases he : mk = w
    · refine L_true (by simp [he]) ?_
      rw [if_pos he] at ha
      refine L_reg [4] (fun K hK => ?_)
      simp
      apply hK; clear hK K
      exact L_ret ⟨.inr rfl, _, rfl, by rw [← ha] at h; exact h _ hE⟩
    · refine L_false (by simp; omega) ?_
      rw [if_neg he] at ha
      refine L_reg [1, 2, 5] (fun K hK => ?_)
      simp [wrap_i64 (a := (k : Int) + 1) (by omega)]
      apply hK; clear hK K
      exact ⟨t - (k + 1), [.int .i64 ((k + 1 : Nat) : Int)], by omega, by simp, k + 1, rfl, by omega, ha, rfl, rfl⟩
  · rw [show t - k = 0 by omega, atS] at ha
    refine L_reg [4] (fun K hK => ?_)
    simp
    apply hK; clear hK K
    exact L_ret ⟨.inr rfl, _, rfl, by rw [← ha] at h; exact h _ hE⟩
theorem rat_ac (m s t w : Nat) (h1 : 1 ≤ m) (h2 : m ≤ 100) (h3 : s < m) (h5 : t ≤ per m s) (H : AH) (Q : AV → AH → Prop) (h : Q (.int .i64 (atI m s w t)) H) : AC Try.prog 65 [WV m s t, .int .i64 w] H Q :=
  AC.quiet (belB_int _ _ _ _) (fun Q h => rat_ac0 m s t w h1 h2 h3 h5 H Q h) Q h
def rndP (m s t w : Nat) : List Int := ((List.range w).filterMap fun w => atS m s w t 0).map fun (x : Nat) => (x : Int)
theorem rndP_succ (m s t w : Nat) : rndP m s t (w + 1) = match atS m s w t 0 with | some k => rndP m s t w ++ [(k : Int)] | none => rndP m s t w := by
  unfold rndP
  rw [List.range_succ, List.filterMap_append, List.map_append]
  cases h : atS m s w t 0 with
  | none => simp [h]
  | some k => simp [h]
theorem rndP_len (m s t w : Nat) : (rndP m s t w).length ≤ w := by
  unfold rndP
  rw [List.length_map]
  have := List.length_filterMap_le (fun w => atS m s w t 0) (List.range w)
  simpa using this
theorem rround_ac (m s t : Nat) (h1 : 1 ≤ m) (h2 : m ≤ 100) (h3 : s < m) (h5 : t ≤ per m s) (H : AH) (Q : AV → AH → Prop) (h : ∀ v H', OwnF H.length H' v ((roundS m s t).map (.int .i64)) → Ext H H' → Q v H') : AC Try.prog 72 [WV m s t] H Q := by
  refine L_body 22 Try.func72 rfl rfl ?_
  refine L_reg [1] (fun K hK => ?_)
  simp [AV.isU, acells, WV]
  apply hK; clear hK K
  obtain ⟨H1, e, hE, -, -, b⟩ := box3 H m s t
  rw [e]
  refine L_reg [1, 3] (fun K hK => ?_)
  simp
  apply hK; clear hK K
  refine L_reg [1, 3, 4] (fun K hK => ?_)
  simp
  apply hK; clear hK K
  refine L_block (L_loopV [3, 4] (fun n vs H' => ∃ (w : Nat) (v : AV), n = m - w ∧ w ≤ m ∧ vs = [v, .int .i64 w] ∧ OwnF H1.length H' v ((rndP m s t w).map (.int .i64)) ∧ Ext H1 H') _ [.slice none 0 0 0 1 false, .int .i64 0] rfl ⟨0, _, rfl, by omega, rfl, .nil _ _, .refl _⟩ ?_)
  rintro n _ H2 ⟨w, v, rfl, hw, rfl, hO, hE2⟩
  have b2 := b.ext hE2
  refine L_reg [1, 3, 4, 8] (fun K hK => ?_)
  simp [b2.l0]
  apply hK; clear hK K
  refine L_dec (w < m) (by simp) (fun hlt => ?_) (fun hge => L_exit ?_)
  · refine L_block ?_
    have hsucc := rndP_succ m s t w
    have hle := rndP_len m s t w
    have hat := rat_ac m s t w h1 h2 h3 h5
    unfold atI at hat
    cases ha : atS m s w t 0 with
    | none =>
      rw [ha] at hsucc hat
      refine L_reg [1, 3, 4, 14] (fun K hK => ?_)
      simp [okFn_low, b2.la]
      refine hat _ _ ?_
      simp
      apply hK; clear hK K
      refine L_false (by simp) ?_
      refine L_reg [1, 3, 4] (fun K hK => ?_)
      simp [wrap_i64 (a := (w : Int) + 1) (by omega)]
      apply hK; clear hK K
      exact ⟨m - (w + 1), [v, .int .i64 ((w + 1 : Nat) : Int)], by omega, by simp, w + 1, v, rfl, by omega, rfl, by rw [hsucc]; exact hO, hE2⟩
    | some k =>
      rw [ha] at hsucc hat
      refine L_reg [1, 3, 4, 14] (fun K hK => ?_)
      simp [okFn_low, b2.la]
      refine hat _ _ ?_
      simp
      apply hK; clear hK K
      refine L_true (by simp) ?_
      obtain ⟨v', H3, happ, hO3, hE3⟩ := ownF_append hE2 el36 el36 (x := .int .i64 (k : Int)) (m := 1) hO rfl (by simp; omega)
      refine L_reg [1, 3, 4] (fun K hK => ?_)
      simp [okFn_low, b2.la]
      refine hat _ _ ?_
      simp [happ]
      apply hK; clear hK K
      refine L_reg [1, 3, 4] (fun K hK => ?_)
      simp [wrap_i64 (a := (w : Int) + 1) (by omega)]
      apply hK; clear hK K
      exact ⟨m - (w + 1), [v', .int .i64 ((w + 1 : Nat) : Int)], by omega, by simp, w + 1, v', rfl, by omega, rfl, by rw [hsucc]; simpa using hO3, hE3⟩
  · have hw' : w = m := by omega
    subst hw'
    refine L_reg [2] (fun K hK => ?_)
    simp
    apply hK; clear hK K
    exact L_ret ⟨.inr rfl, _, rfl, h v H2 (hO.mono hE.1) (hE.trans hE2)⟩
theorem gapL_get (m : Nat) : ∀ (l : List Nat) (i : Nat), i < l.length → (gapL m l)[i]? = some (((l.getD (i + 1) m : Nat) : Int) - (l.getD i 0 : Nat))
  | [], i, h => by simp at h
  | w :: ws, 0, _ => by cases ws <;> simp [gapL]
  | w :: ws, i + 1, h => by
    have := gapL_get m ws i (by simpa using h)
    simpa [gapL] using this
theorem rgaps_ac (m s t : Nat) (h1 : 1 ≤ m) (h2 : m ≤ 100) (h3 : s < m) (h5 : t ≤ per m s) (H : AH) (Q : AV → AH → Prop) (h : ∀ v H', OwnF H.length H' v ((gapsS m s t).map (.int .i64)) → Ext H H' → Q v H') : AC Try.prog 74 [WV m s t] H Q := by
  refine L_body 41 Try.func74 rfl rfl ?_
  refine L_reg [1] (fun K hK => ?_)
  simp [AV.isU, acells, WV]
  apply hK; clear hK K
  obtain ⟨H1, e, hE, -, -, b⟩ := box3 H m s t
  rw [e]
  refine L_reg [1, 3] (fun K hK => ?_)
  simp [okFn_low, b.la]
  refine rround_ac m s t h1 h2 h3 h5 _ _ (fun v H2 hO hE2 => ?_)
  simp
  apply hK; clear hK K
  have b2 := b.ext hE2
  have hpm := per_le m s
  have hl := roundS_len (show 0 < m by omega) h5
  have hgl := gapsS_len (m := m) (s := s) (show 0 < m by omega) h5
  have hLs : Ls H2 v (roundS m s t) := hO.own.ls
  have hget : ∀ i, i < t → ∃ k : Nat, k < t ∧ (roundS m s t)[i]? = some (k : Int) ∧ mkR m s t i = k * s % m := fun i hi => by
    obtain ⟨k, hk, e⟩ := (mem_roundS (m := m) (s := s) (by omega) h5).1 (List.getElem_mem (l := roundS m s t) (n := i) (by omega))
    have e2 : (roundS m s t)[i]? = some (k : Int) := by rw [List.getElem?_eq_getElem (by omega), e]
    exact ⟨k, hk, e2, mkR_some e2⟩
  have hgg : ∀ i, i < t → (gapsS m s t)[i]? = some (((if i + 1 < t then mkR m s t (i + 1) else m : Nat) : Int) - (mkR m s t i : Nat)) := fun i hi => by
    unfold gapsS
    rw [gapL_get m _ i (by simp; omega)]
    congr 2
    · by_cases h : i + 1 < t
      · rw [if_pos h, mkR_get (by omega), List.getD_eq_getElem?_getD, List.getElem?_map, List.getElem?_eq_getElem (by omega)]; rfl
      · rw [if_neg h, List.getD_eq_getElem?_getD, List.getElem?_eq_none (by simp; omega)]; rfl
    · rw [mkR_get (by omega), List.getD_eq_getElem?_getD, List.getElem?_map, List.getElem?_eq_getElem (by omega)]; rfl
  generalize roundS m s t = L at *
  generalize gapsS m s t = G at *
  refine L_reg [1, 3, 4] (fun K hK => ?_)
  simp
  apply hK; clear hK K
  refine L_reg [1, 3, 4, 5] (fun K hK => ?_)
  simp
  apply hK; clear hK K
  refine L_block (L_loopV [4, 5] (fun n vs H' => ∃ (i : Nat) (u : AV), n = t - i ∧ i ≤ t ∧ vs = [u, .int .i64 i] ∧ OwnF H2.length H' u ((G.take i).map (.int .i64)) ∧ Ext H2 H') _ [.slice none 0 0 0 1 false, .int .i64 0] rfl ⟨0, _, rfl, by omega, rfl, .nil _ _, .refl _⟩ ?_)
  rintro n _ H3 ⟨i, u, rfl, hi, rfl, hO3, hE3⟩
  have b3 := b2.ext hE3
  obtain ⟨r, off, ver, sz, full, rfl, hld⟩ := hLs.ext hE3
  refine L_reg [1, 3, 4, 5, 12] (fun K hK => ?_)
  simp [hl]
  apply hK; clear hK K
  refine L_dec (i < t) (by simp) (fun hlt => ?_) (fun hge => L_exit ?_)
  · refine L_block ?_
    obtain ⟨k, hk, ek, em⟩ := hget i hlt
    obtain ⟨r', rfl, rfl, hrd⟩ := hld i (by omega)
    have eki : L[i] = (k : Int) := by rw [List.getElem?_eq_getElem (by omega)] at ek; exact Option.some.inj ek
    rw [eki] at hrd
    have hgi := hgg i hlt
    have hmr := mkR_max (s := s) (t := t) (i := i) (show 0 < m by omega)
    have hmr2 := mkR_max (s := s) (t := t) (i := i + 1) (show 0 < m by omega)
    rw [em] at hgi hmr
    have hks := bound (k := k) h2 h3 h5 (by omega)
    have fin : ∀ (x : Nat), (if i + 1 < t then mkR m s t (i + 1) else m) = x → x ≤ 100 → G.take (i + 1) = G.take i ++ [(x : Int) - (k * s % m : Nat)] := fun x hx _ => by
      rw [hx] at hgi
      rw [List.take_add_one, hgi]; rfl
    refine L_reg [1, 3, 4, 5, 6] (fun K hK => ?_)
    simp [b3.l0]
    apply hK; clear hK K
    refine L_reg [1, 3, 4, 5, 6, 21] (fun K hK => ?_)
    simp [wrap_i64 (a := (i : Int) + 1) (by omega)]
    apply hK; clear hK K
    generalize hmk : k * s % m = mk at *
    by_cases hlt2 : i + 1 < t
    · obtain ⟨k2, hk2, ek2, em2⟩ := hget (i + 1) hlt2
      obtain ⟨r', hr', -, hrd2⟩ := hld (i + 1) (by omega)
      cases hr'
      have eki2 : L[i + 1] = (k2 : Int) := by rw [List.getElem?_eq_getElem (by omega)] at ek2; exact Option.some.inj ek2
      rw [eki2] at hrd2
      have hks2 := bound (k := k2) h2 h3 h5 (by omega)
      have fin := fin (k2 * s % m) (by rw [if_pos hlt2, em2]) (by omega)
      rw [em2] at hmr2
      generalize hmk2 : k2 * s % m = mk2 at *
      refine L_dec (i + 1 < t) (by simp; omega) (fun _ => ?_) (fun hh => absurd hlt2 hh)
      refine L_regQ mixed [1, 3, 4, 5, 6] (by kernel_rfl) (fun K hK => ?_)
      simp [okFn_low, b3.la, wrap_i64 (a := (i : Int) + 1) (by omega), hrd2, show (0 : Int) ≤ (i : Int) + 1 by omega, show (i : Int) + 1 < t by omega, show ((i : Int) + 1).toNat = i + 1 by omega]
      refine exQ_mk (fun Q hQ => rmark_ac m s k2 t (by omega) (by omega) H3 Q hQ) ?_
      simp [hmk2]
      apply hK; clear hK K
      obtain ⟨v', H4, happ, hO4, hE4⟩ := ownF_append hE3 el36 el36 (x := .int .i64 ((mk2 : Int) - (mk : Nat))) (m := 1) hO3 rfl (by simp; omega)
      refine L_regT mixed [1, 3, 4, 5] (by kernel_rfl) (fun K hK => ?_)
      simp [okFn_low, b3.la, hrd, hlt]
      refine exC_mk (fun Q hQ => rmark_ac m s k t (by omega) (by omega) H3 Q hQ) ?_
      simp [hmk, wrap_i64 (a := (mk2 : Int) - (mk : Nat)) (by omega), happ]
      apply hK; clear hK K
      refine L_reg [1, 3, 4, 5] (fun K hK => ?_)
      simp [wrap_i64 (a := (i : Int) + 1) (by omega)]
      apply hK; clear hK K
      exact ⟨t - (i + 1), [v', .int .i64 ((i + 1 : Nat) : Int)], by omega, by simp [hl], i + 1, v', rfl, by omega, rfl, by rw [fin]; simpa using hO4, hE4⟩
    · refine L_dec (i + 1 < t) (by simp; omega) (fun hh => absurd hh hlt2) (fun _ => ?_)
      have fin := fin m (by rw [if_neg hlt2]) (by omega)
      obtain ⟨v', H4, happ, hO4, hE4⟩ := ownF_append hE3 el36 el36 (x := .int .i64 ((m : Int) - (mk : Nat))) (m := 1) hO3 rfl (by simp; omega)
      refine L_regT mixed [1, 3, 4, 5] (by kernel_rfl) (fun K hK => ?_)
      simp [okFn_low, b3.la, hrd, hlt]
      refine exC_mk (fun Q hQ => rmark_ac m s k t (by omega) (by omega) H3 Q hQ) ?_
      simp [hmk, wrap_i64 (a := (m : Int) - (mk : Nat)) (by omega), happ]
      apply hK; clear hK K
      refine L_reg [1, 3, 4, 5] (fun K hK => ?_)
      simp [wrap_i64 (a := (i : Int) + 1) (by omega)]
      apply hK; clear hK K
      exact ⟨t - (i + 1), [v', .int .i64 ((i + 1 : Nat) : Int)], by omega, by simp [hl], i + 1, v', rfl, by omega, rfl, by rw [fin]; simpa using hO4, hE4⟩
  · have hi' : i = t := by omega
    refine L_reg [2] (fun K hK => ?_)
    simp
    apply hK; clear hK K
    have : G.take i = G := by rw [List.take_of_length_le (by omega)]
    rw [this] at hO3
    exact L_ret ⟨.inr rfl, _, rfl, h u H3 (hO3.mono (by have := hE.1; have := hE2.1; omega)) (hE.trans (hE2.trans hE3))⟩
end Go.Proofs.Ytjfmiohgkcjdnaa
