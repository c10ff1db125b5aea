/- What grows, and what is reached. -/
import Derived.Test.YtfbpgnjeafadmaaFlo1
namespace Go.Proofs.Ytfbpgnjeafadmaa.Fl
open Go Go.Proofs.Ytfbpgnjeafadmaa Go.Proofs.Ytfbpgnjeafadmaa.AX

def b1 (q : Bool) : Nat := if q then 1 else 0
set_option maxRecDepth 100000 in
theorem beside_q {r c : Nat} (hs : Sd r c) (b : Nat) (hb : b < r * c) (S : Nat → Bool) (H : AH) (Q : AV → AH → Prop) (h : Q (.int .i64 (bes r c S b : Nat)) H) : AC Try.prog 89 [.agg [.int .i64 r, .int .i64 c], .int .i64 b, .agg (bA S)] H Q := by
  refine AC.quiet (belB_int _ _ _ _) (fun Q h => ?_) Q h
  have h25 := hs.le
  have hc1 := hs.c1
  have hc5 := hs.c5
  have hr5 := hs.r5
  rw [bes_eq] at h
  have hrow : b / c < r := Nat.div_lt_of_lt_mul (by rw [Nat.mul_comm]; exact hb)
  have hcol : b % c < c := Nat.mod_lt _ hc1
  have hdm := Nat.div_add_mod b c
  have hq := quo_nat b c
  have hm := rem_nat b c
  have hc0 : c ≠ 0 := by omega
  obtain ⟨x, hx⟩ : ∃ x, b / c = x := ⟨_, rfl⟩
  obtain ⟨y, hy⟩ : ∃ y, b % c = y := ⟨_, rfl⟩
  rw [hx] at hq hrow hdm
  rw [hy] at hm hcol hdm
  rw [hx, hy] at h
  have up1 : 0 < x → c ≤ b := fun h0 => by
    have : c * 1 ≤ c * x := Nat.mul_le_mul_left c h0
    omega
  have dn1 : x + 1 < r → b + c < r * c := fun h0 => by
    have : c * (x + 2) ≤ c * r := Nat.mul_le_mul_left c h0
    rw [Nat.mul_comm r c]
    rw [Nat.mul_add] at this
    omega
  refine L_body 69 Try.func89 rfl rfl ?_
  refine L_reg [1, 3, 5] (fun K hK => ?_)
  simp [AV.isU, acells]
  apply hK; clear hK K
  have h1 : (H ++ [AObj.row [.int .i64 r, .int .i64 c] 0 0 false, AObj.row (bA S) 0 0 false])[H.length]? = some (.row [.int .i64 r, .int .i64 c] 0 0 false) := by simp
  have h2 : (H ++ [AObj.row [.int .i64 r, .int .i64 c] 0 0 false, AObj.row (bA S) 0 0 false])[H.length + 1]? = some (.row (bA S) 0 0 false) := by simp
  have hE : Ext H (H ++ [AObj.row [.int .i64 r, .int .i64 c] 0 0 false, AObj.row (bA S) 0 0 false]) := .push _ _
  generalize H ++ [AObj.row [.int .i64 r, .int .i64 c] 0 0 false, AObj.row (bA S) 0 0 false] = H1 at h1 h2 hE ⊢
  have a0 := ld_f0 h1
  have a1 := ld_f1 h1
  have w1 : IntKind.i64.wrap (x : Int) = x := wrap_i64 (by omega)
  have hcz : (c : Int) ≠ 0 := by omega
  refine L_regT mixed [1, 3, 5, 7, 8] (by kernel_rfl) (fun K hK => ?_)
  simp [a1, hq, hm, w1, hc0]
  apply hK; clear hK K
  refine L_reg [1, 3, 5, 7, 8, 9] (fun K hK => ?_)
  simp
  apply hK; clear hK K
  obtain ⟨q1, hq1⟩ : ∃ q, (decide (0 < x) && S (b - c)) = q := ⟨_, rfl⟩
  obtain ⟨q2, hq2⟩ : ∃ q, (decide (x + 1 < r) && S (b + c)) = q := ⟨_, rfl⟩
  obtain ⟨q3, hq3⟩ : ∃ q, (decide (0 < y) && S (b - 1)) = q := ⟨_, rfl⟩
  obtain ⟨q4, hq4⟩ : ∃ q, (decide (y + 1 < c) && S (b + 1)) = q := ⟨_, rfl⟩
  rw [hq1, hq2, hq3, hq4] at h
  refine L_reg [1, 3, 5, 7, 8, 9, 27] (fun K hK => ?_)
  suffices hk : K [(1, .int .i64 b), (3, .ptr H.length 0 0), (5, .ptr (H.length + 1) 0 0), (7, .int .i64 x), (8, .int .i64 y), (9, .int .i64 0), (27, .bool q1)] H1 by
    by_cases c1 : 0 < x
    · obtain ⟨z, hz⟩ : ∃ z : Nat, (b : Int) - c = z := ⟨b - c, by have := up1 c1; omega⟩
      have hz25 : z < 25 := by omega
      have hzn : b - c = z := by omega
      have a2 := ld_b h2 hz25
      have hzi : (z : Int) < 25 := by omega
      have w : IntKind.i64.wrap (z : Int) = z := wrap_i64 (by omega)
      rw [decide_eq_true c1, Bool.true_and, hzn] at hq1
      subst hq1
      simp [c1, a1, hz, w, hzi, a2, pickV]
      exact hk
    · rw [decide_eq_false c1, Bool.false_and] at hq1
      subst hq1
      simp [c1, pickV]
      exact hk
  apply hK; clear hK K
  refine L_condK [1, 3, 5, 7, 8, 9] (fun e' H' => e' = [(1, .int .i64 b), (3, .ptr H.length 0 0), (5, .ptr (H.length + 1) 0 0), (7, .int .i64 x), (8, .int .i64 y), (9, .int .i64 (b1 q1 : Nat))] ∧ H1 = H') (t := q1) (by simp) (fun ht => ?_) (fun ht => ?_) ?_
  · subst ht
    refine L_reg [1, 3, 5, 7, 8, 9] (fun K hK => ?_)
    simp
    apply hK; clear hK K
    exact ⟨rfl, rfl⟩
  · subst ht
    exact ⟨rfl, rfl⟩
  rintro _ _ ⟨rfl, rfl⟩
  obtain ⟨m1, hm1⟩ : ∃ m, b1 q1 = m := ⟨_, rfl⟩
  have l1 : m1 ≤ 1 := by rw [← hm1]; unfold b1; split <;> omega
  rw [hm1]
  have e1 : (if q1 = true then 1 else 0) = m1 := by rw [← hm1]; rfl
  rw [e1] at h
  have wr : IntKind.i64.wrap ((r : Int) - 1) = ((r - 1 : Nat) : Int) := by rw [wrap_i64 (by have := hs.r1; omega)]; have := hs.r1; omega
  have wc : IntKind.i64.wrap ((c : Int) - 1) = ((c - 1 : Nat) : Int) := by rw [wrap_i64 (by omega)]; omega
  refine L_reg [1, 3, 5, 8, 9, 42] (fun K hK => ?_)
  suffices hk : K [(1, .int .i64 b), (3, .ptr H.length 0 0), (5, .ptr (H.length + 1) 0 0), (8, .int .i64 y), (9, .int .i64 m1), (42, .bool q2)] H1 by
    by_cases c1 : x + 1 < r
    · obtain ⟨z, hz⟩ : ∃ z : Nat, b + c = z := ⟨_, rfl⟩
      have hzz : (b : Int) + c = z := by omega
      have hz25 : z < 25 := by have := dn1 c1; omega
      have a2 := ld_b h2 hz25
      have hzi : (z : Int) < 25 := by omega
      have w : IntKind.i64.wrap (z : Int) = z := wrap_i64 (by omega)
      have c2 : x < r - 1 := by omega
      rw [decide_eq_true c1, Bool.true_and, hz] at hq2
      subst hq2
      simp [wr, c2, a0, a1, hzz, w, hzi, a2, pickV]
      exact hk
    · rw [decide_eq_false c1, Bool.false_and] at hq2
      have c2 : ¬ x < r - 1 := by omega
      subst hq2
      simp [wr, c2, a0, pickV]
      exact hk
  apply hK; clear hK K
  refine L_condK [1, 3, 5, 8, 9] (fun e' H' => e' = [(1, .int .i64 b), (3, .ptr H.length 0 0), (5, .ptr (H.length + 1) 0 0), (8, .int .i64 y), (9, .int .i64 (m1 + b1 q2 : Nat))] ∧ H1 = H') (t := q2) (by simp) (fun ht => ?_) (fun ht => ?_) ?_
  · subst ht
    refine L_reg [1, 3, 5, 8, 9] (fun K hK => ?_)
    simp [wrap_i64 (a := (m1 : Int) + 1) (by omega)]
    apply hK; clear hK K
    exact ⟨by simp [b1], rfl⟩
  · subst ht
    exact ⟨rfl, rfl⟩
  rintro _ _ ⟨rfl, rfl⟩
  obtain ⟨m2, hm2⟩ : ∃ m, m1 + b1 q2 = m := ⟨_, rfl⟩
  have l2 : m2 ≤ 2 := by rw [← hm2]; unfold b1; split <;> omega
  rw [hm2]
  have e2 : m1 + (if q2 = true then 1 else 0) = m2 := by rw [← hm2]; rfl
  rw [e2] at h
  refine L_reg [1, 3, 5, 8, 9, 52] (fun K hK => ?_)
  suffices hk : K [(1, .int .i64 b), (3, .ptr H.length 0 0), (5, .ptr (H.length + 1) 0 0), (8, .int .i64 y), (9, .int .i64 m2), (52, .bool q3)] H1 by
    by_cases c1 : 0 < y
    · have hy0 : 0 < b := by
        rcases Nat.eq_zero_or_pos b with h0 | h0
        · subst h0; simp at hy; omega
        · exact h0
      obtain ⟨z, hz⟩ : ∃ z : Nat, b - 1 = z := ⟨_, rfl⟩
      have hzz : (b : Int) - 1 = z := by omega
      have hz25 : z < 25 := by omega
      have a2 := ld_b h2 hz25
      have hzi : (z : Int) < 25 := by omega
      have w : IntKind.i64.wrap (z : Int) = z := wrap_i64 (by omega)
      rw [decide_eq_true c1, Bool.true_and, hz] at hq3
      subst hq3
      simp [c1, hzz, w, hzi, a2, pickV]
      exact hk
    · rw [decide_eq_false c1, Bool.false_and] at hq3
      subst hq3
      simp [c1, pickV]
      exact hk
  apply hK; clear hK K
  refine L_condK [1, 3, 5, 8, 9] (fun e' H' => e' = [(1, .int .i64 b), (3, .ptr H.length 0 0), (5, .ptr (H.length + 1) 0 0), (8, .int .i64 y), (9, .int .i64 (m2 + b1 q3 : Nat))] ∧ H1 = H') (t := q3) (by simp) (fun ht => ?_) (fun ht => ?_) ?_
  · subst ht
    refine L_reg [1, 3, 5, 8, 9] (fun K hK => ?_)
    simp [wrap_i64 (a := (m2 : Int) + 1) (by omega)]
    apply hK; clear hK K
    exact ⟨by simp [b1], rfl⟩
  · subst ht
    exact ⟨rfl, rfl⟩
  rintro _ _ ⟨rfl, rfl⟩
  obtain ⟨m3, hm3⟩ : ∃ m, m2 + b1 q3 = m := ⟨_, rfl⟩
  have l3 : m3 ≤ 3 := by rw [← hm3]; unfold b1; split <;> omega
  rw [hm3]
  have e3 : m2 + (if q3 = true then 1 else 0) = m3 := by rw [← hm3]; rfl
  rw [e3] at h
  refine L_reg [9, 65] (fun K hK => ?_)
  suffices hk : K [(9, .int .i64 m3), (65, .bool q4)] H1 by
    by_cases c1 : y + 1 < c
    · obtain ⟨z, hz⟩ : ∃ z : Nat, b + 1 = z := ⟨_, rfl⟩
      have hzz : (b : Int) + 1 = z := by omega
      have hz25 : z < 25 := by
        have : c * x + c ≤ c * r := by
          have : c * (x + 1) ≤ c * r := Nat.mul_le_mul_left c hrow
          rwa [Nat.mul_add, Nat.mul_one] at this
        rw [Nat.mul_comm r c] at h25
        omega
      have a2 := ld_b h2 hz25
      have hzi : (z : Int) < 25 := by omega
      have w : IntKind.i64.wrap (z : Int) = z := wrap_i64 (by omega)
      have c2 : y < c - 1 := by omega
      rw [decide_eq_true c1, Bool.true_and, hz] at hq4
      subst hq4
      simp [wc, c2, a1, hzz, w, hzi, a2, pickV]
      exact hk
    · rw [decide_eq_false c1, Bool.false_and] at hq4
      have c2 : ¬ y < c - 1 := by omega
      subst hq4
      simp [wc, c2, a1, pickV]
      exact hk
  apply hK; clear hK K
  refine L_condK [9] (fun e' H' => e' = [(9, .int .i64 (m3 + b1 q4 : Nat))] ∧ H1 = H') (t := q4) (by simp) (fun ht => ?_) (fun ht => ?_) ?_
  · subst ht
    refine L_reg [9] (fun K hK => ?_)
    simp [wrap_i64 (a := (m3 : Int) + 1) (by omega)]
    apply hK; clear hK K
    exact ⟨by simp [b1], rfl⟩
  · subst ht
    exact ⟨rfl, rfl⟩
  rintro _ _ ⟨rfl, rfl⟩
  refine L_reg [6] (fun K hK => ?_)
  simp
  apply hK; clear hK K
  exact L_ret ⟨.inr rfl, _, rfl, h _ hE⟩
end Go.Proofs.Ytfbpgnjeafadmaa.Fl
