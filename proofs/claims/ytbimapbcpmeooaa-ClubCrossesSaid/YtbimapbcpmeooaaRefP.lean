/- The reference's sets: what is left, how many, their tables, which is smaller. -/
import Derived.Test.YtbimapbcpmeooaaRefM
import Derived.Test.YtbimapbcpmeooaaSeekS
namespace Go.Proofs.Ytbimapbcpmeooaa.Cl
open Go Go.Proofs.Ytbimapbcpmeooaa Go.Proofs.Ytbimapbcpmeooaa.AX
set_option maxRecDepth 100000
set_option linter.unusedVariables false
theorem shrF (s i : Nat) (hi : i ≤ 64) : (s : Int).fdiv (2 ^ min i IntKind.i64.bits) = ((s / 2 ^ i : Nat) : Int) := by
  have e : min i IntKind.i64.bits = i := by show min i 64 = i; omega
  rw [e, Int.fdiv_eq_ediv_of_nonneg _ (Int.le_of_lt (Int.pow_pos (by omega)))]
  rw [Int.natCast_ediv, Int.natCast_pow]
  rfl
theorem tmodZ (z : Nat) : ((z : Int).tmod 2) = (z : Int) % 2 := Int.tmod_eq_emod_of_nonneg (by omega)
theorem tdivZ (z : Nat) : ((z : Int).tdiv 2) = (z : Int) / 2 := Int.tdiv_eq_ediv_of_nonneg (by omega)
theorem bneN (a b : Nat) : ((a : Int) != (b : Int)) = decide (a ≠ b) := by rw [Bool.eq_iff_iff, bne_iff_ne, decide_eq_true_eq]; omega
theorem beqN (a b : Nat) : ((a : Int) == (b : Int)) = decide (a = b) := by rw [Bool.eq_iff_iff, beq_iff_eq, decide_eq_true_eq]; omega
theorem size_q (m s : Nat) (hm : m ≤ 30) (hs : s < 2 ^ m) (H : AH) (Q : AV → AH → Prop) (h : Q (.int .i64 (tr (bt m s) : Nat)) H) : AC Try.prog 91 [.int .i64 s] H Q := by
  have hpw : ∀ k, k ≤ 30 → 2 ^ k ≤ 2 ^ 30 := fun k hk => Nat.pow_le_pow_right (by omega) hk
  refine L_body 13 Try.func91 rfl rfl ?_
  refine L_reg [0] (fun K hK => ?_)
  simp
  apply hK; clear hK K
  refine L_reg [0, 3] (fun K hK => ?_)
  simp
  apply hK; clear hK K
  refine L_block (L_loopV [0, 3] (fun q vs H' => ∃ (k z c : Nat), q = k ∧ k ≤ m ∧ z < 2 ^ k ∧ c + k ≤ m ∧ vs = [.int .i64 z, .int .i64 c] ∧ H = H' ∧ tr (bt m s) = c + tr (bt k z)) _ [.int .i64 (s : Nat), .int .i64 (0 : Nat)] rfl ⟨m, s, 0, rfl, Nat.le_refl _, hs, by omega, rfl, rfl, by omega⟩ ?_)
  rintro q _ _ ⟨k, z, c, rfl, hk, hz, hck, rfl, rfl, ht⟩
  refine L_reg [0, 3, 5] (fun K hK => ?_)
  simp
  apply hK; clear hK K
  have h30 := hpw q (by omega)
  refine L_dec (0 < z) (by simp) (fun hlt => ?_) (fun hge => L_exit ?_)
  · refine L_block ?_
    cases q with
    | zero => simp at hz; omega
    | succ q =>
      rw [Nat.pow_succ] at hz
      refine L_reg [0, 3] (fun K hK => ?_)
      simp [tmodZ, wrap_i64 (a := (c : Int) + (z : Int) % 2) (by omega)]
      apply hK; clear hK K
      refine L_reg [0, 3] (fun K hK => ?_)
      simp [wrap_i64 (a := (z : Int) / 2) (by omega)]
      apply hK; clear hK K
      refine ⟨q, [.int .i64 (z / 2 : Nat), .int .i64 (c + z % 2 : Nat)], by omega, by simp, q, z / 2, c + z % 2, rfl, by omega, by omega, by omega, rfl, rfl, ?_⟩
      rw [ht, bt]
      unfold tr
      by_cases e : z % 2 = 1
      · simp [e]; omega
      · have : z % 2 = 0 := by omega
        simp [this]
  · have : z = 0 := by omega
    subst this
    rw [bt_zero, Nat.add_zero] at ht
    refine L_reg [2] (fun K hK => ?_)
    simp
    apply hK; clear hK K
    exact L_ret ⟨.inr rfl, _, rfl, by rw [ht] at h; exact h⟩
theorem with_ac (a m s : Nat) (ha : a ≤ 100) (hm : m ≤ 30) (hs : s < 2 ^ m) (H : AH) (Q : AV → AH → Prop) (h : ∀ v' H', OwnK 2 H.length H' v' (tb (wt a (a + 1) (bt m s))) → Ext H H' → Q v' H') : AC Try.prog 93 [.int .i64 a, .int .i64 s] H Q := by
  have h30 : 2 ^ m ≤ 2 ^ 30 := Nat.pow_le_pow_right (by omega) hm
  refine L_body 28 Try.func93 rfl rfl ?_
  refine L_reg [0, 1] (fun K hK => ?_)
  simp
  apply hK; clear hK K
  refine L_reg [0, 1, 5] (fun K hK => ?_)
  simp
  apply hK; clear hK K
  refine L_reg [0, 1, 5, 6] (fun K hK => ?_)
  simp
  apply hK; clear hK K
  refine L_block (L_loopV [5, 6] (fun q vs H' => ∃ (i : Nat) (u : AV) (A : List Tb), q = m - i ∧ i ≤ m ∧ A.length ≤ i ∧ vs = [u, .int .i64 i] ∧ Ext H H' ∧ OwnK 2 H.length H' u (tb A) ∧ wt a (a + 1) (bt m s) = A ++ wt a (a + 1 + i) (bt (m - i) (s / 2 ^ i))) _ [.slice none 0 0 0 1 false, .int .i64 (0 : Nat)] rfl ⟨0, _, [], rfl, by omega, by simp, rfl, .refl _, OwnK.nil _ _ _, by simp⟩ ?_)
  rintro q _ H1 ⟨i, u, A, rfl, hi, hA, rfl, hE, ho, hc⟩
  have hz : s / 2 ^ i ≤ s := Nat.div_le_self _ _
  obtain ⟨z, hzz⟩ : ∃ z, s / 2 ^ i = z := ⟨_, rfl⟩
  rw [hzz] at hc hz
  refine L_reg [0, 1, 5, 6, 10] (fun K hK => ?_)
  simp [shrF s i (by omega), hzz]
  apply hK; clear hK K
  refine L_dec (0 < z) (by simp) (fun hlt => ?_) (fun hge => L_exit ?_)
  · refine L_block ?_
    have him : i < m := by
      apply Classical.byContradiction
      intro hn
      obtain rfl : i = m := by omega
      rw [Nat.div_eq_of_lt hs] at hzz
      omega
    have hnx : s / 2 ^ (i + 1) = z / 2 := by rw [Nat.pow_succ, ← Nat.div_div_eq_div_mul, hzz]
    rw [show m - i = (m - (i + 1)) + 1 by omega, bt] at hc
    refine L_reg [0, 1, 5, 6, 17] (fun K hK => ?_)
    simp [shrF s i (by omega), hzz, tmodZ]
    apply hK; clear hK K
    by_cases e : z % 2 = 1
    · have e2 : (z : Int) % 2 = 1 := by omega
      refine L_true (by simp [e2]) ?_
      rw [decide_eq_true e, wt] at hc
      obtain ⟨u', H3, happ, ho3, hE3⟩ := ownK_append hE ek32 ek32 (x := [.int .i64 (a : Int), .int .i64 ((a : Int) + 1 + (i : Int))]) (m := 2) ho rfl (by simp [AV.one]) (by rw [tb_len]; omega)
      refine L_reg [0, 1, 5, 6] (fun K hK => ?_)
      simp [wrap_i64 (a := (a : Int) + 1) (by omega), wrap_i64 (a := (a : Int) + 1 + (i : Int)) (by omega), bd67, row32, happ]
      apply hK; clear hK K
      refine L_reg [0, 1, 5, 6] (fun K hK => ?_)
      simp [wrap_i64 (a := (i : Int) + 1) (by omega)]
      apply hK; clear hK K
      refine ⟨m - (i + 1), [u', .int .i64 (i + 1 : Nat)], by omega, by simp, i + 1, u', A ++ [(a, a + 1 + i)], rfl, by omega, by simp; omega, rfl, hE3, ?_, ?_⟩
      · have : tb (A ++ [(a, a + 1 + i)]) = tb A ++ [[.int .i64 (a : Int), .int .i64 ((a : Int) + 1 + (i : Int))]] := by simp [tb]
        rw [this]; exact ho3
      · rw [hc, hnx]; simp [Nat.add_assoc]
    · have e2 : ((z : Int) % 2 == 1) = false := by rw [beq_eq_false_iff_ne]; omega
      refine L_false (by simpa using e2) ?_
      rw [decide_eq_false e, wt] at hc
      refine L_reg [0, 1, 5, 6] (fun K hK => ?_)
      simp [wrap_i64 (a := (i : Int) + 1) (by omega)]
      apply hK; clear hK K
      exact ⟨m - (i + 1), [u, .int .i64 (i + 1 : Nat)], by omega, by simp, i + 1, u, A, rfl, by omega, by omega, rfl, hE, ho, by rw [hc, hnx]; simp [Nat.add_assoc]⟩
  · have : z = 0 := by omega
    subst this
    rw [wt_zero _ _ _ (bt_zero _), List.append_nil] at hc
    rw [← hc] at ho
    refine L_reg [4] (fun K hK => ?_)
    simp
    apply hK; clear hK K
    exact L_ret ⟨.inr rfl, _, rfl, h _ _ ho hE⟩
/-- Tables in memory: one of them. -/
theorem rs_ix {H : AH} {v : AV} {T : List Tb} (h : Rs 2 H v (tb T)) {i : Nat} (hi : i < T.length) : ∃ r p ver, (∀ k, aIndexAddr Try.prog 32 v (.int k (i : Int)) = some (.ptr r p ver)) ∧ ld H r p ver = some (.int .i64 (T[i].1 : Nat)) ∧ ld H r (p + 1) ver = some (.int .i64 (T[i].2 : Nat)) ∧ loadV Try.prog 67 H (.ptr r p ver) = some (.agg [.int .i64 (T[i].1 : Nat), .int .i64 (T[i].2 : Nat)]) := by
  obtain ⟨r, off, ver, sz, full, rfl, hld⟩ := h
  obtain ⟨r', rfl, rfl, hx⟩ := hld i (by rw [tb_len]; exact hi)
  have hx : ldn H r' ver 2 (off + i * 2) = some [.int .i64 (T[i].1 : Nat), .int .i64 (T[i].2 : Nat)] := by rw [hx]; simp [tb]
  refine ⟨r', off + i * 2, ver, fun k => ?_, ?_, ?_, ?_⟩
  · rw [ixa32, tb_len]
    simp [hi]
  · rw [ldn_succ] at hx
    cases h1 : ld H r' (off + i * 2) ver with
    | none => rw [h1] at hx; cases hx
    | some x =>
      rw [h1, Option.bind_some] at hx
      cases h2 : ldn H r' ver 1 (off + i * 2 + 1) with
      | none => rw [h2] at hx; cases hx
      | some y => rw [h2] at hx; simp at hx; rw [hx.1]
  · rw [ldn_succ] at hx
    cases h1 : ld H r' (off + i * 2) ver with
    | none => rw [h1] at hx; cases hx
    | some x =>
      rw [h1, Option.bind_some, ldn_succ] at hx
      cases h2 : ld H r' (off + i * 2 + 1) ver with
      | none => rw [h2] at hx; cases hx
      | some y => rw [h2] at hx; simp [ldn] at hx; rw [hx.2]
  · rw [load_agg ag67, hx]; rfl
theorem rs_len {H : AH} {v : AV} {T : List Tb} (h : Rs 2 H v (tb T)) : aLen Try.prog 32 v = some (.int .i64 (T.length : Nat)) := by
  obtain ⟨r, off, ver, sz, full, rfl, -⟩ := h
  rw [len32, tb_len]
theorem smaller_q (T S : List Tb) (u v : AV) (hl : T.length = S.length) (h1 : T.length ≤ 1000000) (H : AH) (hu : Rs 2 H u (tb T)) (hv : Rs 2 H v (tb S)) (Q : AV → AH → Prop) (h : Q (.bool (smP T S)) H) : AC Try.prog 92 [u, v] H Q := by
  have hul := rs_len hu
  refine L_body 56 Try.func92 rfl rfl ?_
  refine L_reg [0, 1] (fun K hK => ?_)
  simp
  apply hK; clear hK K
  refine L_reg [0, 1, 5] (fun K hK => ?_)
  simp
  apply hK; clear hK K
  refine L_block (L_loopV [5] (fun q vs H' => ∃ (i : Nat), q = T.length - i ∧ i ≤ T.length ∧ vs = [.int .i64 i] ∧ H = H' ∧ smP T S = smP (T.drop i) (S.drop i)) _ [.int .i64 (0 : Nat)] rfl ⟨0, rfl, by omega, rfl, rfl, rfl⟩ ?_)
  rintro q _ _ ⟨i, rfl, hi, rfl, rfl, hc⟩
  refine L_reg [0, 1, 5, 9] (fun K hK => ?_)
  simp [hul]
  apply hK; clear hK K
  refine L_dec (i < T.length) (by simp) (fun hlt => ?_) (fun hge => L_exit ?_)
  · refine L_block ?_
    have hlt' : i < S.length := by omega
    obtain ⟨r1, p1, v1, x1, y1, z1, -⟩ := rs_ix hu hlt
    obtain ⟨r2, p2, v2, x2, y2, z2, -⟩ := rs_ix hv hlt'
    rw [List.drop_eq_getElem_cons hlt, List.drop_eq_getElem_cons hlt', smP] at hc
    generalize T[i] = p at y1 z1 hc
    generalize S[i] = q at y2 z2 hc
    refine L_regT mixed [0, 1, 5, 22] (by kernel_rfl) (fun K hK => ?_)
    simp [x1, x2, y1, y2]
    apply hK; clear hK K
    refine L_dec (p.1 ≠ q.1) (by simp [bneN]) (fun c1 => ?_) (fun c1 => ?_)
    · rw [if_pos c1] at hc
      refine L_regT mixed [4] (by kernel_rfl) (fun K hK => ?_)
      simp [x1, x2, y1, y2]
      apply hK; clear hK K
      exact L_ret ⟨.inr rfl, _, rfl, by rw [hc] at h; simpa using h⟩
    · rw [if_neg c1] at hc
      refine L_regT mixed [0, 1, 5, 44] (by kernel_rfl) (fun K hK => ?_)
      simp [x1, x2, z1, z2]
      apply hK; clear hK K
      refine L_dec (p.2 ≠ q.2) (by simp [bneN]) (fun c2 => ?_) (fun c2 => ?_)
      · rw [if_pos c2] at hc
        refine L_regT mixed [4] (by kernel_rfl) (fun K hK => ?_)
        simp [x1, x2, z1, z2]
        apply hK; clear hK K
        exact L_ret ⟨.inr rfl, _, rfl, by rw [hc] at h; simpa using h⟩
      · rw [if_neg c2] at hc
        refine L_reg [0, 1, 5] (fun K hK => ?_)
        simp [wrap_i64 (a := (i : Int) + 1) (by omega)]
        apply hK; clear hK K
        exact ⟨T.length - (i + 1), [.int .i64 (i + 1 : Nat)], by omega, by simp, i + 1, rfl, by omega, rfl, rfl, hc⟩
  · have e : i = T.length := by omega
    subst e
    rw [List.drop_length] at hc
    refine L_reg [4] (fun K hK => ?_)
    simp
    apply hK; clear hK K
    exact L_ret ⟨.inr rfl, _, rfl, by rw [hc] at h; exact h⟩
end Go.Proofs.Ytbimapbcpmeooaa.Cl
