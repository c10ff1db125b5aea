/- Dock: what its functions give. -/
import Derived.Test.YtojblooaiojmcaaFacts
namespace Go.Proofs.Ytojblooaiojmcaa
open Go Go.Proofs.Ytojblooaiojmcaa.AX

theorem isBay_ac (a b : Int) (H : AH) (Q : AV → AH → Prop) (h : Q (.bool (decide (0 ≤ b) && decide (b < a))) H) : AC Try.prog 62 [.int .i64 a, .int .i64 b] H Q := by
  refine AC_of_body (nt := 12) Try.func62 rfl rfl ?_
  refine AW_seqR [0, 1, 4] (fun K hK => ?_)
  simp
  apply hK; clear hK K
  refine AW_seqR [0, 1, 4] (fun K hK => ?_)
  by_cases h0 : 0 ≤ b <;> simp [h0] at h ⊢ <;> apply hK <;> clear hK K <;> apply AW_ret <;> exact ⟨.inr rfl, _, rfl, h⟩

theorem has_ac (s b : Nat) (H : AH) (Q : AV → AH → Prop) (hs : s < 2 ^ 64) (hb : b < 64) (h : Q (.bool (s.testBit b)) H) : AC Try.prog 83 [.int .u64 s, .int .i64 b] H Q := by
  refine AC_of_body (nt := 10) Try.func83 rfl rfl ?_
  refine AW_seqR [0, 1, 4] (fun K hK => ?_)
  simp
  apply hK; clear hK K
  refine AW_seqR [0, 1, 4] (fun K hK => ?_)
  simp [n_shr' (k := .u64) s b (Nat.le_of_lt hb), bit64' s b hs hb, ite_beq_one, -b_shr, -b_and]
  apply hK; clear hK K
  exact AW_ret ⟨.inr rfl, _, rfl, h⟩

theorem with_ac (s b : Nat) (H : AH) (Q : AV → AH → Prop) (hs : s < 2 ^ 64) (hb : b < 64) (h : Q (.int .u64 ((s ||| 2 ^ b : Nat) : Int)) H) : AC Try.prog 77 [.int .u64 s, .int .i64 b] H Q := by
  refine AC_of_body (nt := 9) Try.func77 rfl rfl ?_
  refine AW_seqR [0, 1, 4] (fun K hK => ?_)
  simp
  apply hK; clear hK K
  refine AW_seqR [0, 1, 4] (fun K hK => ?_)
  simp [n_shl64' b hb, or64' s b hs hb, -b_shl, -b_or]
  apply hK; clear hK K
  exact AW_ret ⟨.inr rfl, _, rfl, h⟩
/-- The first bay from w on, of so many, that is not in a set. -/
def ff (s : Nat) : Nat → Nat → Nat
  | 0, w => w
  | k + 1, w => if s.testBit w then ff s k (w + 1) else w

def fateV (n b : Nat) : AV := if b < n then .iface 91 (.agg [.int .i64 b]) else .iface 93 (.agg [])

theorem drive_ac (n s w : Nat) (H : AH) (Q : AV → AH → Prop) (hs : s < 2 ^ 64) (hn : n ≤ 8) (h : Q (fateV n (ff s (n - w) w)) H) : AC Try.prog 64 [.int .i64 n, .int .u64 s, .int .i64 w] H Q := by
  refine AC_of_body (nt := 23) Try.func64 rfl rfl ?_
  refine AW_seqR [0, 1, 2, 6] (fun K hK => ?_)
  simp
  apply hK; clear hK K
  refine AW_seq (AW_seqR [0, 1, 6, 7] (fun K hK => ?_))
  simp
  apply hK; clear hK K
  refine AW_block (AW_loop (fun k e H' => ∃ b : Nat, k = n - b ∧ ff s (n - b) b = ff s (n - w) w ∧ e = [(0, .int .i64 n), (1, .int .u64 s), (6, .niliface), (7, .int .i64 b)] ∧ H' = H) (n - w) ⟨w, rfl, rfl, rfl, rfl⟩ ?_)
  rintro k _ _ ⟨b, rfl, hff, rfl, rfl⟩
  refine AW_seq (AW_seqR [0, 1, 6, 7, 11] (fun K hK => ?_))
  simp
  apply hK; clear hK K
  refine AW_condD (p := b < n) (by simp) (fun hlt => AW_skip ?_) (fun hge => AW_exit ?_)
  · refine AW_seq (AW_block (AW_seqR [0, 1, 6, 7, 17] (fun K hK => ?_)))
    simp [okFn_low]
    refine has_ac s b _ _ hs (by omega) ?_
    simp
    apply hK; clear hK K
    obtain ⟨m, hm⟩ : ∃ m, n - b = m + 1 := ⟨n - b - 1, by omega⟩
    rw [hm, ff] at hff
    refine AW_cond_split rfl (fun ht => ?_) (fun ht => AW_skip ?_)
    · refine AW_seqR [6] (fun K hK => ?_)
      simp [built91]
      apply hK; clear hK K
      refine AW_ret ⟨.inr rfl, _, rfl, ?_⟩
      simp at ht
      simp [ht] at hff
      rw [← hff, fateV, if_pos hlt] at h
      exact h
    · refine AW_regR [0, 1, 6, 7] (fun K hK => ?_)
      simp [wrap_i64 (a := (b : Int) + 1) (by omega)]
      apply hK; clear hK K
      simp at ht
      simp [ht] at hff
      exact ⟨n - (b + 1), by omega, b + 1, rfl, by rw [← hff]; congr 1; omega, by simp, rfl⟩
  · refine AW_seqR [6] (fun K hK => ?_)
    simp [built93]
    apply hK; clear hK K
    refine AW_ret ⟨.inr rfl, _, rfl, ?_⟩
    have : n - b = 0 := by omega
    rw [this, ff] at hff
    rw [← hff, fateV, if_neg hge] at h
    exact h
theorem bayOf_run (b : Int) : runF cx 50 63 [.iface 91 (.agg [.int .i64 b])] [] = some (.int .i64 b, []) := by kernel_rfl
theorem bayOf_away : runF cx 50 63 [.iface 93 (.agg [])] [] = some (.int .i64 (-1), []) := by kernel_rfl
theorem bayOf_ac (n b : Nat) (H : AH) (Q : AV → AH → Prop) (h : Q (.int .i64 (if b < n then (b : Int) else -1)) H) : AC Try.prog 63 [fateV n b] H Q := by
  unfold fateV
  by_cases hb : b < n
  · rw [if_pos hb] at h ⊢
    exact AC_kern cx_ok 50 (bayOf_run b) (.cons (.iface 91 (.agg (.cons (.int _ _) .nil))) .nil) (.int _ _) h
  · rw [if_neg hb] at h ⊢
    exact AC_kern cx_ok 50 bayOf_away (.cons (.iface 93 (.agg .nil)) .nil) (.int _ _) h

def okBays (n : Int) : Int := if 1 ≤ n ∧ n ≤ 8 then 0 else 1
theorem checkBays_ac (n : Int) (H : AH) (Q : AV → AH → Prop) (h : Q (.int .i64 (okBays n)) H) : AC Try.prog 60 [.int .i64 n] H Q := by
  refine AC_of_body (nt := 9) Try.func60 rfl rfl ?_
  refine AW_seqR [0, 2] (fun K hK => ?_)
  simp
  apply hK; clear hK K
  refine AW_seq (AW_seqR [0, 2, 8] (fun K hK => ?_))
  by_cases h1 : n < 1
  · simp [h1]
    apply hK; clear hK K
    refine AW_cond_true rfl (AW_seqR [0, 2] (fun K hK => ?_))
    simp
    apply hK; clear hK K
    refine AW_ret ⟨.inr rfl, _, rfl, ?_⟩
    rw [okBays, if_neg (by omega)] at h
    exact h
  · simp [h1]
    apply hK; clear hK K
    refine AW_condD (p := 8 < n) rfl (fun h8 => AW_seqR [0, 2] (fun K hK => ?_)) (fun h8 => AW_skip (AW_seqR [0, 2] (fun K hK => ?_)))
    · simp
      apply hK; clear hK K
      refine AW_ret ⟨.inr rfl, _, rfl, ?_⟩
      rw [okBays, if_neg (by omega)] at h
      exact h
    · simp
      apply hK; clear hK K
      refine AW_ret ⟨.inr rfl, _, rfl, ?_⟩
      rw [okBays, if_pos (by omega)] at h
      exact h

/-- The set of bays, or what is wrong with them. -/
def diffS (n : Nat) : Nat → List Int → Nat × Int
  | s, [] => (s, 0)
  | s, b :: l => if ¬ (0 ≤ b ∧ b < n) then (0, 2) else if s.testBit b.toNat then (0, 6) else diffS n (s ||| 2 ^ b.toNat) l

theorem different_ac (n : Nat) (v : AV) (l : List Int) (H : AH) (Q : AV → AH → Prop) (hn : n ≤ 8) (hl : l.length ≤ 1048576) (hv : Ls H v l) (h : Q (.tuple [.int .u64 (diffS n 0 l).1, .int .i64 (diffS n 0 l).2]) H) : AC Try.prog 61 [.int .i64 n, v] H Q := by
  obtain ⟨r, off, ver, sz, full, rfl, hv⟩ := hv
  refine L_body 27 Try.func61 rfl rfl ?_
  refine L_reg [0, 1, 4, 5] (fun K hK => ?_)
  simp
  apply hK; clear hK K
  refine L_reg [0, 1, 4, 5, 6] (fun K hK => ?_)
  simp
  apply hK; clear hK K
  refine L_reg [0, 4, 5, 6, 9, 10, 11] (fun K hK => ?_)
  simp
  apply hK; clear hK K
  refine L_block (L_loop (fun k e H' => ∃ (i s : Nat), k = l.length - i ∧ diffS n s (l.drop i) = diffS n 0 l ∧ s < 2 ^ 64 ∧ e = [(0, .int .i64 n), (4, .int .u64 0), (5, .int .i64 0), (6, .int .u64 s), (9, .slice r off l.length ver sz full), (10, .int .i64 l.length), (11, .int .i64 i)] ∧ H' = H) l.length ⟨0, 0, rfl, rfl, by decide, rfl, rfl⟩ ?_)
  rintro k _ _ ⟨i, s, rfl, hd, hs, rfl, rfl⟩
  refine L_reg [0, 4, 5, 6, 9, 10, 11, 12] (fun K hK => ?_)
  simp
  apply hK; clear hK K
  refine L_dec (i < l.length) (by simp) (fun hi => ?_) (fun hi => L_exit ?_)
  · obtain ⟨r', rfl, rfl, hld⟩ := hv i hi
    rw [List.drop_eq_getElem_cons hi, diffS] at hd
    generalize l[i] = x at hd hld
    refine L_block ?_
    refine L_reg [0, 4, 5, 6, 8, 9, 10, 11] (fun K hK => ?_)
    simp [hi, hld]
    apply hK; clear hK K
    refine L_reg [0, 4, 5, 6, 8, 9, 10, 11, 18] (fun K hK => ?_)
    simp [okFn_low]
    refine isBay_ac _ _ _ _ ?_
    simp
    apply hK; clear hK K
    by_cases hx : 0 ≤ x ∧ x < n
    · obtain ⟨b, rfl⟩ := Int.eq_ofNat_of_zero_le hx.1
      have hb : b < n := by omega
      rw [if_neg (by simp [hb])] at hd
      refine L_false (by simp [hb]) ?_
      refine L_reg [0, 4, 5, 6, 8, 9, 10, 11, 21] (fun K hK => ?_)
      simp [okFn_low]
      refine has_ac s b _ _ hs (by omega) ?_
      simp
      apply hK; clear hK K
      refine L_split rfl (fun ht => ?_) (fun ht => ?_)
      · refine L_reg [4, 5] (fun K hK => ?_)
        simp
        apply hK; clear hK K
        refine L_ret ⟨.inr rfl, _, rfl, ?_⟩
        rw [if_pos (by simpa using ht)] at hd
        rw [← hd] at h
        exact h
      · refine L_reg [0, 4, 5, 6, 9, 10, 11] (fun K hK => ?_)
        simp [okFn_low]
        refine with_ac s b _ _ hs (by omega) ?_
        simp
        apply hK; clear hK K
        refine L_reg [0, 4, 5, 6, 9, 10, 11] (fun K hK => ?_)
        simp [wrap_i64 (a := (i : Int) + 1) (by omega)]
        apply hK; clear hK K
        rw [if_neg (by simpa using ht)] at hd
        exact ⟨l.length - (i + 1), by omega, i + 1, s ||| 2 ^ b, rfl, by rw [← hd]; simp, Nat.or_lt_two_pow hs (Nat.pow_lt_pow_right (by decide) (by omega)), by simp, rfl⟩
    · rw [if_pos hx] at hd
      refine L_true (by simp; omega) ?_
      refine L_reg [4, 5] (fun K hK => ?_)
      simp
      apply hK; clear hK K
      refine L_ret ⟨.inr rfl, _, rfl, ?_⟩
      rw [← hd] at h
      exact h
  · refine L_reg [4, 5] (fun K hK => ?_)
    simp
    apply hK; clear hK K
    refine L_ret ⟨.inr rfl, _, rfl, ?_⟩
    rw [List.drop_eq_nil_of_le (by omega), diffS] at hd
    rw [← hd] at h
    exact h

/-- The bay that a cart gets, or what is wrong. -/
def nextS (n : Int) (l : List Int) (w : Int) : Int × Int :=
  if okBays n ≠ 0 then (0, okBays n) else
  if (diffS n.toNat 0 l).2 ≠ 0 then (0, (diffS n.toNat 0 l).2) else
  if ¬ (0 ≤ w ∧ w < n) then (0, 2) else
  let b := ff (diffS n.toNat 0 l).1 (n.toNat - w.toNat) w.toNat
  if b < n.toNat then (b, 0) else (0, 12)

theorem diffS_lt (n : Nat) (hn : n ≤ 8) : ∀ (l : List Int) (s : Nat), s < 2 ^ 64 → (diffS n s l).1 < 2 ^ 64
  | [], s, h => h
  | b :: l, s, h => by
    rw [diffS]
    split
    · decide
    · split
      · decide
      · exact diffS_lt n hn l _ (Nat.or_lt_two_pow h (Nat.pow_lt_pow_right (by decide) (by omega)))

theorem Next_ac (n w : Int) (v : AV) (l : List Int) (H : AH) (Q : AV → AH → Prop) (hl : l.length ≤ 1048576) (hv : Ls H v l) (h : Q (.tuple [.int .i64 (nextS n l w).1, .int .i64 (nextS n l w).2]) H) : AC Try.prog 20 [.int .i64 n, v, .int .i64 w] H Q := by
  refine L_body 38 Try.func20 rfl rfl ?_
  refine L_reg [0, 1, 2, 6, 7] (fun K hK => ?_)
  simp
  apply hK; clear hK K
  refine L_reg [0, 1, 2, 6, 7, 8] (fun K hK => ?_)
  simp [okFn_low]
  refine checkBays_ac _ _ _ ?_
  simp
  apply hK; clear hK K
  refine L_reg [0, 1, 2, 6, 7, 8, 15] (fun K hK => ?_)
  simp
  apply hK; clear hK K
  by_cases h0 : okBays n = 0
  · refine L_false (by simp [h0]) ?_
    obtain ⟨m, rfl⟩ : ∃ m : Nat, n = m := Int.eq_ofNat_of_zero_le (by unfold okBays at h0; split at h0; omega; omega)
    have hm : m ≤ 8 := by unfold okBays at h0; split at h0; omega; omega
    refine L_reg [0, 1, 2, 6, 7, 9, 10] (fun K hK => ?_)
    simp [okFn_low]
    refine different_ac m v l H _ hm hl hv ?_
    simp
    apply hK; clear hK K
    refine L_reg [0, 1, 2, 6, 7, 9, 10, 24] (fun K hK => ?_)
    simp
    apply hK; clear hK K
    by_cases h1 : (diffS m 0 l).2 = 0
    · refine L_false (by simp [h1]) ?_
      refine L_reg [0, 2, 6, 7, 9, 29] (fun K hK => ?_)
      simp [okFn_low]
      refine isBay_ac _ _ _ _ ?_
      simp
      apply hK; clear hK K
      by_cases hw : 0 ≤ w ∧ w < m
      · obtain ⟨b, rfl⟩ := Int.eq_ofNat_of_zero_le hw.1
        refine L_false (by simp; omega) ?_
        refine L_reg [6, 7, 11] (fun K hK => ?_)
        simp [okFn_low]
        refine drive_ac m _ b _ _ (diffS_lt m hm l 0 (by decide)) hm ?_
        simp [okFn_low]
        refine bayOf_ac _ _ _ _ ?_
        simp
        apply hK; clear hK K
        refine L_reg [6, 7, 11, 36] (fun K hK => ?_)
        simp
        apply hK; clear hK K
        have hb : b < m := by omega
        have hnx : nextS m l b = if ff (diffS m 0 l).1 (m - b) b < m then ((ff (diffS m 0 l).1 (m - b) b : Int), 0) else (0, 12) := by
          unfold nextS
          rw [if_neg (by simp [h0]), if_neg (by simp [h1]), if_neg (by omega)]
          rfl
        rw [hnx] at h
        by_cases hf : ff (diffS m 0 l).1 (m - b) b < m
        · rw [if_pos hf] at h
          refine L_false (by simp [hf]) ?_
          refine L_reg [6, 7] (fun K hK => ?_)
          simp [hf]
          apply hK; clear hK K
          exact L_ret ⟨.inr rfl, _, rfl, h⟩
        · rw [if_neg hf] at h
          refine L_true (by simp [hf]) ?_
          refine L_reg [6, 7] (fun K hK => ?_)
          simp
          apply hK; clear hK K
          exact L_ret ⟨.inr rfl, _, rfl, h⟩
      · have hnx : nextS m l w = (0, 2) := by
          unfold nextS
          rw [if_neg (by simp [h0]), if_neg (by simp [h1]), if_pos hw]
        rw [hnx] at h
        refine L_true (by simp; omega) ?_
        refine L_reg [6, 7] (fun K hK => ?_)
        simp
        apply hK; clear hK K
        exact L_ret ⟨.inr rfl, _, rfl, h⟩
    · have hnx : nextS m l w = (0, (diffS m 0 l).2) := by
        unfold nextS
        rw [if_neg (by simp [h0]), if_pos (by simpa using h1)]
        rfl
      rw [hnx] at h
      refine L_true (by simp [h1]) ?_
      refine L_reg [6, 7] (fun K hK => ?_)
      simp
      apply hK; clear hK K
      exact L_ret ⟨.inr rfl, _, rfl, h⟩
  · have hnx : nextS n l w = (0, okBays n) := by
      unfold nextS
      rw [if_pos h0]
    rw [hnx] at h
    refine L_true (by simp [h0]) ?_
    refine L_reg [6, 7] (fun K hK => ?_)
    simp
    apply hK; clear hK K
    exact L_ret ⟨.inr rfl, _, rfl, h⟩
end Go.Proofs.Ytojblooaiojmcaa
