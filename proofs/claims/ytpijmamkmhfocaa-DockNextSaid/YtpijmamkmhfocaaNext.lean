/- The law of the first free bay. -/
import Derived.Test.YtpijmamkmhfocaaDock
import Derived.Test.YtpijmamkmhfocaaWorks
namespace Go.Proofs.Ytpijmamkmhfocaa
open Go Go.Proofs.Ytpijmamkmhfocaa.AX

theorem tmodN (a b : Nat) : Int.tmod (a : Int) (b : Int) = ((a % b : Nat) : Int) := rfl

theorem diffS_append (n : Nat) : ∀ (l : List Int) (s : Nat) (m : List Int), (diffS n s l).2 = 0 → diffS n s (l ++ m) = diffS n (diffS n s l).1 m
  | [], s, m, _ => rfl
  | b :: l, s, m, h => by
    rw [List.cons_append, diffS, diffS]
    rw [diffS] at h
    split
    · rename_i hc; rw [if_pos hc] at h; cases h
    · rename_i hc
      rw [if_neg hc] at h
      split
      · rename_i hd; rw [if_pos hd] at h; cases h
      · rename_i hd
        rw [if_neg hd] at h
        exact diffS_append n l _ m h

theorem ff_congr {s t : Nat} : ∀ (k w : Nat), (∀ x, w ≤ x → x < w + k → s.testBit x = t.testBit x) → ff s k w = ff t k w
  | 0, w, _ => rfl
  | k + 1, w, h => by
    rw [ff, ff, h w (Nat.le_refl _) (by omega), ff_congr k (w + 1) fun x h1 h2 => h x (by omega) (by omega)]
theorem ff_le (s : Nat) : ∀ (k w : Nat), ff s k w ≤ w + k
  | 0, w => Nat.le_refl _
  | k + 1, w => by
    rw [ff]
    split
    · have := ff_le s k (w + 1); omega
    · omega

theorem dockNext_ac (a t c : Nat) (ha : a < 256) (ht : t < 256) (hc : c < 256) : AC Try.prog 13 [.int .u8 a, .int .u8 t, .int .u8 c] [] fun v _ => v = .bool true := by
  refine L_body 79 Try.func13 rfl rfl ?_
  refine L_reg [0, 1, 2, 6] (fun K hK => ?_)
  simp
  apply hK; clear hK K
  refine L_reg [1, 2, 6, 7] (fun K hK => ?_)
  have e1 : Int.tmod (a : Int) 8 = ((a % 8 : Nat) : Int) := rfl
  simp [wrap_i64 (a := (a : Int)) (by omega), e1]
  rw [wrap_i64 (a := 1 + (a : Int) % 8) (by omega)]
  obtain ⟨n, hn⟩ : ∃ n : Nat, (1 + (a : Int) % 8) = n := ⟨1 + a % 8, by omega⟩
  have hn1 : 1 ≤ n := by omega
  have hn8 : n ≤ 8 := by omega
  rw [hn]
  apply hK; clear hK K
  clear hn e1
  refine L_reg [1, 6, 7, 8] (fun K hK => ?_)
  have e2 : Int.tmod (c : Int) n = ((c % n : Nat) : Int) := rfl
  simp [wrap_i64 (a := (c : Int)) (by omega), e2, show n ≠ 0 by omega]
  obtain ⟨w, hw⟩ : ∃ w : Nat, ((c : Int) % n) = w := ⟨c % n, rfl⟩
  have hwn : w < n := by have := Int.emod_lt_of_pos (c : Int) (show (0 : Int) < n by omega); omega
  rw [hw]
  apply hK; clear hK K
  clear hw e2
  refine L_reg [1, 6, 7, 8, 9] (fun K hK => ?_)
  simp
  apply hK; clear hK K
  refine L_reg [1, 6, 7, 8, 9, 10] (fun K hK => ?_)
  simp [wrap_i64 (a := (n : Int) - 1) (by omega)]
  apply hK; clear hK K
  refine L_block (L_loop (fun k e H' => ∃ (j : Nat) (l : List Int) (v : AV), k = j ∧ j ≤ n ∧ l.length ≤ n - j ∧ Own H' v (l.map (.int .i64)) ∧ (diffS n 0 l).2 = 0 ∧ (∀ x, (diffS n 0 l).1.testBit x = (decide (j ≤ x ∧ x < n) && t.testBit x)) ∧
    e = [(1, .int .u8 t), (6, .bool false), (7, .int .i64 n), (8, .int .i64 w), (9, v), (10, .int .i64 ((j : Int) - 1))]) n ⟨n, [], _, rfl, Nat.le_refl _, by simp, Own.nil _, rfl, fun x => ?_, rfl⟩ ?_)
  · simp [diffS]; omega
  rintro k e H ⟨_, l, v, rfl, hj, hl, hv, hd, hs, rfl⟩
  refine L_reg [1, 6, 7, 8, 9, 10, 25] (fun K hK => ?_)
  simp
  apply hK; clear hK K
  refine L_dec (1 ≤ (k : Int)) (by simp) (fun hj1 => ?_) (fun hj1 => L_exit ?_)
  · obtain ⟨j, rfl⟩ : ∃ j, k = j + 1 := ⟨k - 1, by omega⟩
    rw [show ((j + 1 : Nat) : Int) - 1 = (j : Int) by omega]
    refine L_block ?_
    refine L_reg [1, 6, 7, 8, 9, 10, 32] (fun K hK => ?_)
    simp [n_shr' (k := .u8) t j (show j ≤ 8 by omega), bit8' t j ht, ite_beq_one, -b_shr, -b_and]
    apply hK; clear hK K
    refine L_split rfl (fun hb => ?_) (fun hb => ?_)
    · refine L_reg [1, 6, 7, 8, 9, 10] (fun K hK => ?_)
      obtain ⟨v', H', happ, ho, -⟩ := own_append el22 el22 (m := 1) (x := .int .i64 j) hv rfl (by simp; omega)
      simp [happ]
      apply hK; clear hK K
      refine L_reg [1, 6, 7, 8, 9, 10] (fun K hK => ?_)
      simp [wrap_i64 (a := (j : Int) - 1) (by omega)]
      apply hK; clear hK K
      have hjn : j < n := by omega
      have hns : (diffS n 0 l).1.testBit j = false := by rw [hs, decide_eq_false (by omega)]; rfl
      have hnew : diffS n 0 (l ++ [(j : Int)]) = ((diffS n 0 l).1 ||| 2 ^ j, 0) := by
        rw [diffS_append n l 0 _ hd]
        simp [diffS, hjn, hns]
      refine ⟨j, by omega, j, l ++ [(j : Int)], v', rfl, by omega, by simp; omega, by simpa using ho, by rw [hnew], fun x => ?_, rfl⟩
      rw [hnew]
      simp only [Nat.testBit_or, hs, Nat.testBit_two_pow]
      by_cases hx : j = x
      · subst hx; simp [hb, hjn]
      · have : (j ≤ x ∧ x < n) ↔ (j + 1 ≤ x ∧ x < n) := by omega
        simp [hx, this]
    · refine L_reg [1, 6, 7, 8, 9, 10] (fun K hK => ?_)
      simp [wrap_i64 (a := (j : Int) - 1) (by omega)]
      apply hK; clear hK K
      refine ⟨j, by omega, j, l, v, rfl, by omega, by omega, hv, hd, fun x => ?_, rfl⟩
      rw [hs]
      by_cases hx : j = x
      · subst hx; simp [hb]
      · have : (j ≤ x ∧ x < n) ↔ (j + 1 ≤ x ∧ x < n) := by omega
        simp [this]
  · have hk0 : k = 0 := by omega
    subst hk0
    refine L_reg [1, 6, 7, 8, 9, 11] (fun K hK => ?_)
    simp
    apply hK; clear hK K
    refine L_blockR (fun e' H' => ∃ b : Nat, b ≤ n ∧ ff t (n - w) w = b ∧ e' = [(1, .int .u8 t), (6, .bool false), (7, .int .i64 n), (8, .int .i64 w), (9, v), (11, .int .i64 b), (47, .bool false)] ∧ H' = H) (L_loop (fun k e H' => ∃ b : Nat, k = n - b ∧ w ≤ b ∧ b ≤ n ∧ ff t (n - b) b = ff t (n - w) w ∧ e = [(1, .int .u8 t), (6, .bool false), (7, .int .i64 n), (8, .int .i64 w), (9, v), (11, .int .i64 b)] ∧ H' = H) (n - w) ⟨w, rfl, Nat.le_refl _, by omega, rfl, rfl, rfl⟩ ?_) ?_
    · rintro k _ _ ⟨b, rfl, hwb, hbn, hff, rfl, rfl⟩
      refine L_reg [1, 6, 7, 8, 9, 11, 47] (fun K hK => ?_)
      by_cases hlt : b < n
      · simp [hlt, n_shr' (k := .u8) t b (show b ≤ 8 by omega), bit8' t b ht, ite_beq_one, -b_shr, -b_and]
        apply hK; clear hK K
        obtain ⟨m, hm⟩ : ∃ m, n - b = m + 1 := ⟨n - b - 1, by omega⟩
        rw [hm, ff] at hff
        refine L_split rfl (fun hb => ?_) (fun hb => L_exit ?_)
        · refine L_block (L_reg [1, 6, 7, 8, 9, 11] (fun K hK => ?_))
          simp [wrap_i64 (a := (b : Int) + 1) (by omega)]
          apply hK; clear hK K
          rw [if_pos hb] at hff
          exact ⟨n - (b + 1), by omega, b + 1, rfl, by omega, by omega, by rw [← hff]; congr 1; omega, by simp, rfl⟩
        · rw [if_neg (by simp [hb])] at hff
          exact ⟨b, hbn, hff.symm, by rw [hb], rfl⟩
      · simp [hlt]
        apply hK; clear hK K
        refine L_false rfl (L_exit ?_)
        rw [show n - b = 0 by omega, ff] at hff
        exact ⟨b, hbn, hff.symm, rfl, rfl⟩
    · rintro _ _ ⟨b, hbn, hff, rfl, rfl⟩
      have hnx : nextS n l w = if b < n then ((b : Int), 0) else (0, 12) := by
        have ho : okBays n = 0 := by unfold okBays; rw [if_pos (by omega)]
        have hf : ff (diffS n 0 l).1 (n - w) w = b := by
          rw [← hff]
          refine ff_congr _ _ fun x h1 h2 => ?_
          rw [hs, decide_eq_true (by omega)]
          rfl
        unfold nextS
        rw [if_neg (by simp [ho]), if_neg (by simpa using hd), if_neg (by omega)]
        simp only [Int.toNat_natCast]
        rw [hf]
      refine L_reg [6, 7, 11, 12, 13] (fun K hK => ?_)
      simp [okFn_low]
      refine Next_ac n w v l _ _ (by omega) hv.ls ?_
      simp
      apply hK; clear hK K
      rw [hnx]
      refine L_reg [6, 11, 12, 13, 59] (fun K hK => ?_)
      simp
      apply hK; clear hK K
      by_cases hbn' : b < n
      · simp only [if_pos hbn']
        refine L_false (by simp; omega) ?_
        refine L_reg [6] (fun K hK => ?_)
        simp [okFn_low]
        refine works_ac _ _ ?_
        apply hK; clear hK K
        exact L_ret ⟨.inr rfl, _, rfl, rfl⟩
      · simp only [if_neg hbn']
        refine L_true (by simp; omega) ?_
        refine L_reg [6] (fun K hK => ?_)
        simp [okFn_low]
        refine works_ac _ _ ?_
        apply hK; clear hK K
        exact L_ret ⟨.inr rfl, _, rfl, rfl⟩
end Go.Proofs.Ytpijmamkmhfocaa
