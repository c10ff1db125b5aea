/- Proves. -/
import Derived.Test.YtfbpgnjeafadmaaLw
namespace Go.Proofs.Ytfbpgnjeafadmaa.Fl
open Go Go.Proofs.Ytfbpgnjeafadmaa Go.Proofs.Ytfbpgnjeafadmaa.AX
set_option maxRecDepth 100000

def prS (n : Nat) : (Nat → Bool) → Int → List Int → (Nat → Bool) × Int
  | T, _, [] => (T, 0)
  | T, p, x :: l => if x < 0 ∨ (n : Int) ≤ x then (T, 2) else if x ≤ p then (T, 7) else prS n (upd T x.toNat true) x l
theorem prS_sup {n : Nat} : ∀ (l : List Int) {T : Nat → Bool} {p : Int}, (∀ b, T b = true → b < n) → ∀ b, (prS n T p l).1 b = true → b < n
  | [], _, _, hT, b, h => hT b h
  | x :: l, T, p, hT, b, h => by
    simp only [prS] at h
    split at h
    · exact hT b h
    · rename_i h1
      split at h
      · exact hT b h
      · refine prS_sup l (fun y hy => ?_) b h
        unfold upd at hy
        split at hy
        · rename_i e; subst e; omega
        · exact hT y hy
def provE (m k : Int) (l o t : List Int) : Int := if chkE m k l o ≠ 0 then chkE m k l o else if (prS (m.toNat * k.toNat) none' (-1) t).2 ≠ 0 then (prS (m.toNat * k.toNat) none' (-1) t).2 else if safeS m.toNat k.toNat (m.toNat * k.toNat) (sickS m k l).1 (coldS m k l o).1 (prS (m.toNat * k.toNat) none' (-1) t).1 = true then 0 else 14
theorem Proves_ac (m k : Int) (u w v : AV) (l o t : List Int) (H : AH) (Q : AV → AH → Prop) (hu : Ls H u l) (hw : Ls H w o) (hv : Ls H v t) (hl : l.length ≤ 1000000) (ho : o.length ≤ 1000000) (ht : t.length ≤ 1000000)
    (hq : Q (.int .i64 (provE m k l o t)) H) : AC Try.prog 32 [.agg [.int .i64 m, .int .i64 k, u, w], v] H Q := by
  refine AC.quiet (belB_int _ _ _ _) (fun Q hq => ?_) Q hq
  refine L_body 41 Try.func32 rfl rfl ?_
  obtain ⟨J, hJ, hy⟩ := zeroT_some zt81'
  obtain ⟨I, hI, hz⟩ := zeroT_some zt79'
  have hS0 := sickS_sup m k l
  refine L_reg [1, 2] (fun K hK => ?_)
  simp [AV.isU, acells]
  apply hK; clear hK K
  have b2 : (H ++ [AObj.row [.int .i64 m, .int .i64 k, u, w] 0 0 false])[H.length]? = some (.row [.int .i64 m, .int .i64 k, u, w] 0 0 false) := by simp
  have hL : (H ++ [AObj.row [.int .i64 m, .int .i64 k, u, w] 0 0 false]).length = H.length + 1 := by simp
  have hE : Ext H (H ++ [AObj.row [.int .i64 m, .int .i64 k, u, w] 0 0 false]) := .push _ _
  generalize H ++ [AObj.row [.int .i64 m, .int .i64 k, u, w] 0 0 false] = H1 at b2 hL hE ⊢
  have a2 := ldn4 b2 (ls_known hu) (ls_known hw)
  refine L_reg [1, 5, 6] (fun K hK => ?_)
  simp [okFn_low, a2]
  refine checked_q m k u w l o _ _ (hu.ext hE) (hw.ext hE) hl ho ?_
  simp [hJ, hy, new81F]
  apply hK; clear hK K
  have b5 : (H1 ++ [AObj.row (chkF m k l o) 0 0 false])[H.length + 1]? = some (.row (chkF m k l o) 0 0 false) := by rw [← hL]; simp
  have hE2 : Ext H1 (H1 ++ [AObj.row (chkF m k l o) 0 0 false]) := .push _ _
  have hL2 : (H1 ++ [AObj.row (chkF m k l o) 0 0 false]).length = H.length + 2 := by simp [hL]
  rw [hL]
  replace hE := hE.trans hE2
  clear a2 hE2 b2
  generalize H1 ++ [AObj.row (chkF m k l o) 0 0 false] = H2 at b5 hE hL2 ⊢
  unfold provE at hq
  refine L_reg [1, 5, 6, 17] (fun K hK => ?_)
  simp
  apply hK; clear hK K
  by_cases hc0 : chkE m k l o = 0
  case neg =>
    rw [if_pos hc0] at hq
    refine L_true (by simp [hc0]) ?_
    refine L_reg [4] (fun K hK => ?_)
    simp
    apply hK; clear hK K
    exact L_ret ⟨.inr rfl, _, rfl, hq _ hE⟩
  rw [if_neg (by simp [hc0])] at hq
  refine L_false (by simp [hc0]) ?_
  rw [chk_F hc0] at b5
  have hs := (chk_sides hc0).sd
  clear hc0
  generalize (sickS m k l).1 = S at *
  generalize (coldS m k l o).1 = Z at *
  generalize m.toNat = r at *
  generalize k.toNat = c at *
  obtain ⟨n, hn⟩ : ∃ n, r * c = n := ⟨_, rfl⟩
  have h25 := hs.le
  rw [hn] at hq h25 hS0
  refine L_reg [1, 5, 7] (fun K hK => ?_)
  simp [hI, hz]
  apply hK; clear hK K
  have b7 : (H2 ++ [AObj.row (bA none') 0 0 false])[H.length + 2]? = some (.row (bA none') 0 0 false) := by rw [← hL2]; simp
  have hE2 : Ext H2 (H2 ++ [AObj.row (bA none') 0 0 false]) := .push _ _
  rw [hL2]
  replace b5 := hE2.row b5
  replace hE := hE.trans hE2
  clear hE2
  generalize H2 ++ [AObj.row (bA none') 0 0 false] = H3 at b5 b7 hE ⊢
  refine L_reg [1, 5, 7, 8] (fun K hK => ?_)
  simp
  apply hK; clear hK K
  refine L_reg [5, 7, 8, 19, 20, 21] (fun K hK => ?_)
  simp [ls_len (hv.ext hE)]
  apply hK; clear hK K
  refine L_block (L_loopV [8, 21] (fun q vs H' => ∃ (j s : Nat) (T : Nat → Bool) (p : Int), q = t.length - j ∧ j ≤ t.length ∧ vs = [.int .i64 p, .int .i64 j] ∧ Ext H H' ∧ (∀ b, T b = true → b < n) ∧ prS n T p (t.drop j) = prS n none' (-1) t ∧ H'[H.length + 1]? = some (.row (fl r c S Z) 0 0 false) ∧ H'[H.length + 2]? = some (.row (bA T) 0 s false)) _ [.int .i64 (-1), .int .i64 (0 : Nat)] rfl ⟨0, 0, none', -1, rfl, by omega, rfl, hE, fun b hb => by simp [none'] at hb, rfl, b5, b7⟩ ?_)
  clear b5 b7 hE H3
  rintro q _ H3 ⟨j, s, T, p, rfl, hj, rfl, hE, hT, hp, b5, b7⟩
  have hve := hv.ext hE
  refine L_reg [5, 7, 8, 19, 20, 21, 22] (fun K hK => ?_)
  simp
  apply hK; clear hK K
  refine L_dec (j < t.length) (by simp) (fun hlt => ?_) (fun hge => L_exit ?_)
  · refine L_block ?_
    obtain ⟨rz, pz, vz, hix, hldz⟩ := ls_ix hve hlt
    have a5 := ldn_F0 b5
    rw [List.drop_eq_getElem_cons hlt, ← g_lt hlt] at hp
    obtain ⟨x, hx⟩ : ∃ x, g t j = x := ⟨_, rfl⟩
    rw [hx] at hp hldz
    simp only [prS] at hp
    refine L_reg [5, 7, 8, 10, 19, 20, 21] (fun K hK => ?_)
    simp [hix, hldz]
    apply hK; clear hK K
    refine L_reg [5, 7, 8, 10, 19, 20, 21, 29] (fun K hK => ?_)
    simp [okFn_low, a5]
    refine has_q hs hn x _ _ ?_
    simp
    apply hK; clear hK K
    by_cases hin : 0 ≤ x ∧ x < n
    case neg =>
      rw [if_pos (by omega)] at hp
      rw [← hp, if_pos (by simp)] at hq
      refine L_true (by simp; omega) ?_
      refine L_reg [4] (fun K hK => ?_)
      simp
      apply hK; clear hK K
      exact L_ret ⟨.inr rfl, _, rfl, hq _ hE⟩
    obtain ⟨b, rfl⟩ : ∃ b : Nat, x = b := ⟨x.toNat, by omega⟩
    rw [if_neg (by omega), Int.toNat_natCast] at hp
    have hb25 : b < 25 := by omega
    have hbi : (b : Int) < 25 := by omega
    refine L_false (by simp; omega) ?_
    refine L_reg [5, 7, 10, 19, 20, 21, 32] (fun K hK => ?_)
    simp
    apply hK; clear hK K
    by_cases hle : (b : Int) ≤ p
    · rw [if_pos hle] at hp
      rw [← hp, if_pos (by simp)] at hq
      refine L_true (by simp [hle]) ?_
      refine L_reg [4] (fun K hK => ?_)
      simp
      apply hK; clear hK K
      exact L_ret ⟨.inr rfl, _, rfl, hq _ hE⟩
    rw [if_neg hle] at hp
    have hst := st_b (v := true) b7 hb25
    refine L_false (by simp; omega) ?_
    refine L_reg [5, 7, 10, 19, 20, 21] (fun K hK => ?_)
    simp [hbi, hst]
    apply hK; clear hK K
    refine L_reg [5, 7, 8, 19, 20, 21] (fun K hK => ?_)
    simp
    apply hK; clear hK K
    refine L_reg [5, 7, 8, 19, 20, 21] (fun K hK => ?_)
    simp [wrap_i64 (a := (j : Int) + 1) (by omega)]
    apply hK; clear hK K
    refine ⟨t.length - (j + 1), [.int .i64 b, .int .i64 (j + 1 : Nat)], by omega, by simp, j + 1, min s b, upd T b true, b, rfl, by omega, rfl, hE.set _ (by omega), fun y hy => ?_, hp, ?_, get_set b7⟩
    · unfold upd at hy
      split at hy
      · omega
      · exact hT y hy
    · rw [List.getElem?_set_ne (by omega)]; exact b5
  · have e : j = t.length := by omega
    rw [e, List.drop_length] at hp
    simp only [prS] at hp
    rw [← hp, if_neg (by simp)] at hq
    have a5 := ldn_F b5
    have a7 := ldn_b b7
    refine L_reg [40] (fun K hK => ?_)
    simp [okFn_low, a5, a7]
    refine safe_ac hs hn S Z T hT _ _ ?_
    simp
    apply hK; clear hK K
    cases hsf : safeS r c n S Z T with
    | true =>
      rw [hsf, if_pos rfl] at hq
      refine L_false (by simp) ?_
      refine L_reg [4] (fun K hK => ?_)
      simp
      apply hK; clear hK K
      exact L_ret ⟨.inr rfl, _, rfl, hq _ hE⟩
    | false =>
      rw [hsf, if_neg (by decide)] at hq
      refine L_true (by simp) ?_
      refine L_reg [4] (fun K hK => ?_)
      simp
      apply hK; clear hK K
      exact L_ret ⟨.inr rfl, _, rfl, hq _ hE⟩
/-- An ascending list of bales is taken as it is. -/
theorem prS_num {n : Nat} {T : Nat → Bool} (hT : ∀ b, T b = true → b < n) (hn : n ≤ 25) : prS n none' (-1) (num T) = (T, 0) := by
  have key : ∀ i : Nat, i ≤ 25 → ∀ p : Int, p < i → prS n (fun b => decide (b < i) && T b) p (((List.range' i (25 - i)).filter T).map fun n : Nat => (n : Int)) = (T, 0) := by
    intro i hi
    obtain ⟨d, hd⟩ : ∃ d, 25 - i = d := ⟨_, rfl⟩
    rw [hd]
    induction d generalizing i with
    | zero =>
      intro p hp
      simp only [List.range'_zero, List.filter_nil, List.map_nil, prS]
      congr 1
      funext b
      cases h : T b with
      | true => rw [decide_eq_true (by have := hT b h; omega)]; rfl
      | false => simp
    | succ d ih =>
      intro p hp
      rw [List.range'_succ, List.filter_cons]
      cases h : T i with
      | true =>
        rw [if_pos rfl, List.map_cons]
        simp only [prS]
        have := hT i h
        rw [if_neg (by omega), if_neg (by omega), Int.toNat_natCast]
        have e : upd (fun b => decide (b < i) && T b) i true = fun b => decide (b < i + 1) && T b := by
          funext b
          unfold upd
          by_cases hb : b = i
          · subst hb; simp [h]
          · rw [if_neg hb]
            have : decide (b < i) = decide (b < i + 1) := decide_eq_decide.2 (by omega)
            show (decide (b < i) && T b) = _
            rw [this]
        rw [e]
        exact ih (i + 1) (by omega) (by omega) _ (by omega)
      | false =>
        rw [if_neg (by decide)]
        have e : (fun b => decide (b < i) && T b) = fun b => decide (b < i + 1) && T b := by
          funext b
          by_cases hb : b = i
          · subst hb; simp [h]
          · have : decide (b < i) = decide (b < i + 1) := decide_eq_decide.2 (by omega)
            rw [this]
        rw [e]
        exact ih (i + 1) (by omega) (by omega) p (by omega)
  have := key 0 (by omega) (-1) (by omega)
  have e : (fun b => decide (b < 0) && T b) = none' := by funext b; simp [none']
  rw [e] at this
  rw [← this]
  unfold num
  rw [List.range_eq_range']
theorem Proves_s {H : AH} {r c n : Nat} {S Z T : Nat → Bool} {u w v : AV} (h : St H r c n S Z u w) (hv : Ls H v (num T)) (hT : ∀ b, T b = true → b < n) (Q : AV → AH → Prop) (hq : Q (.int .i64 (if safeS r c n S Z T = true then 0 else 14)) H) : AC Try.prog 32 [.agg [.int .i64 r, .int .i64 c, u, w], v] H Q := by
  obtain ⟨l, o, h1, h2, h3, h4⟩ := h.ls
  obtain ⟨e1, e2, e3⟩ := chk_sets h.hs h.hn h.hS h.hZ h.hd h3 h4
  have hnl := num_len T
  have h25 := h.hs.le
  rw [h.hn] at h25
  refine Proves_ac r c u w v l o _ H Q h1 h2 hv (perm_len h3) (perm_len h4) (by omega) ?_
  unfold provE
  rw [if_neg (by simp [e1]), Int.toNat_natCast, Int.toNat_natCast, h.hn, prS_num hT h25, if_neg (by simp), e2, e3]
  exact hq
/-- What is not reached is safe by itself. -/
theorem safe_out {r c n : Nat} {S Z : Nat → Bool} (hn : r * c = n) (hS : ∀ b, S b = true → b < n) : safeS r c n S Z (sub' (lt' n) (sp r c 2 (opn n Z) S)) = true := by
  have hS' : ∀ b, S b = true → b < r * c := by rw [hn]; exact hS
  unfold safeS
  rw [List.all_eq_true]
  intro x hx
  obtain ⟨b, h1, h2, rfl⟩ := mem_num.1 hx
  rw [Int.toNat_natCast]
  simp only [sub', lt', Bool.and_eq_true, decide_eq_true_eq, Bool.not_eq_true'] at h2
  have hSb : S b = false := by
    cases h : S b with
    | false => rfl
    | true =>
      have : sp r c 2 (opn n Z) S b = true := sp_of (t := 0) hS' h
      rw [this] at h2; cases h2.2
  rw [hSb]
  cases hZb : Z b with
  | true => rfl
  | false =>
    show decide _ = true
    refine decide_eq_true ?_
    apply Classical.byContradiction
    intro hno
    have hle : bes r c (sub' (opn n Z) (sub' (lt' n) (sp r c 2 (opn n Z) S))) b ≤ bes r c (sp r c 2 (opn n Z) S) b := by
      refine bes_mono (fun y hy => ?_) b
      simp only [sub', opn, lt', Bool.and_eq_true, decide_eq_true_eq, Bool.not_eq_true', Bool.and_eq_false_iff, Bool.not_eq_false'] at hy
      rcases hy.2 with h | h
      · simp only [decide_eq_false_iff_not] at h; exact absurd hy.1.1 h
      · exact h
    have : sp r c 2 (opn n Z) S b = true := sp_closed hS' b (nxt_iff.2 (.inr ⟨by omega, by simp [opn, sub', lt', h2.1, hZb], by omega⟩))
    rw [this] at h2; cases h2.2
/-- None that is reached is one of any that are safe. -/
theorem safe_apart {r c n : Nat} {S Z T : Nat → Bool} (hn : r * c = n) (h25 : n ≤ 25) (hS : ∀ b, S b = true → b < n) (hT : ∀ b, T b = true → b < n) (hd : ∀ b, Z b = true → S b = false) (h : safeS r c n S Z T = true) (b : Nat) (hb : T b = true) : sp r c 2 (opn n Z) S b = false := by
  have hS' : ∀ b, S b = true → b < r * c := by rw [hn]; exact hS
  unfold safeS at h
  rw [List.all_eq_true] at h
  have hall : ∀ b, T b = true → S b = false ∧ (Z b = true ∨ bes r c (sub' (opn n Z) T) b < 2) := by
    intro b hb
    have := h b (mem_num.2 ⟨b, by have := hT b hb; omega, hb, rfl⟩)
    rw [Int.toNat_natCast] at this
    simpa using this
  have key : ∀ t b, T b = true → D r c 2 (opn n Z) S t b = false := by
    intro t
    induction t with
    | zero => intro b hb; exact (hall b hb).1
    | succ t ih =>
      intro b hb
      cases hd2 : D r c 2 (opn n Z) S (t + 1) b with
      | false => rfl
      | true =>
        rcases nxt_iff.1 hd2 with h1 | ⟨h1, h2, h3⟩
        · rw [ih b hb] at h1; cases h1
        · simp only [opn, sub', lt', Bool.and_eq_true, decide_eq_true_eq, Bool.not_eq_true'] at h2
          rcases (hall b hb).2 with h4 | h4
          · rw [h4] at h2; cases h2.2
          · have hle : bes r c (D r c 2 (opn n Z) S t) b ≤ bes r c (sub' (opn n Z) T) b := by
              refine bes_mono (fun y hy => ?_) b
              have hyn := D_sup hS' t y hy
              have hyT : T y = false := by
                cases hty : T y with
                | false => rfl
                | true => rw [ih y hty] at hy; cases hy
              have hyZ : Z y = false := by
                cases hz : Z y with
                | false => rfl
                | true =>
                  exfalso
                  have : ∀ t, D r c 2 (opn n Z) S t y = false := by
                    intro t
                    induction t with
                    | zero => exact hd y hz
                    | succ t ih2 =>
                      cases h5 : D r c 2 (opn n Z) S (t + 1) y with
                      | false => rfl
                      | true =>
                        rcases nxt_iff.1 h5 with h6 | ⟨-, h6, -⟩
                        · rw [ih2] at h6; cases h6
                        · simp [opn, sub', hz] at h6
                  rw [this] at hy; cases hy
              simp [sub', opn, lt', hyT, hyZ]
              omega
            omega
  exact key _ b hb
end Go.Proofs.Ytfbpgnjeafadmaa.Fl
