/- As many pairs as the codes say. -/
import Derived.Test.YtbhdddifpgfemaaTurned
import Derived.Test.YtbhdddifpgfemaaMath
namespace Go.Proofs.Ytbhdddifpgfemaa

def popB : Nat → Nat → Nat
  | 0, _ => 0
  | f + 1, s => s % 2 + popB f (s / 2)
theorem and_even (t : Nat) (h : 0 < t) : (2 * t) &&& (2 * t - 1) = 2 * (t &&& (t - 1)) := by
  apply Nat.eq_of_testBit_eq
  intro i
  cases i with
  | zero => simp [Nat.testBit_zero]
  | succ i =>
    rw [Nat.testBit_and, Nat.testBit_succ, Nat.testBit_succ, Nat.testBit_succ, show 2 * t / 2 = t by omega, show (2 * t - 1) / 2 = t - 1 by omega, show 2 * (t &&& (t - 1)) / 2 = t &&& (t - 1) by omega, Nat.testBit_and]
theorem and_odd (t : Nat) : (2 * t + 1) &&& (2 * t) = 2 * t := by
  apply Nat.eq_of_testBit_eq
  intro i
  cases i with
  | zero => simp [Nat.testBit_zero]
  | succ i =>
    rw [Nat.testBit_and, Nat.testBit_succ, Nat.testBit_succ, show 2 * t / 2 = t by omega, show (2 * t + 1) / 2 = t by omega, Bool.and_self]
theorem isPop_double : ∀ (p t : Nat), isPop p (2 * t) = isPop p t
  | 0, t => by
    have : (2 * t == 0) = (t == 0) := by
      rw [Bool.eq_iff_iff]; simp; omega
    simpa [isPop] using this
  | p + 1, t => by
    rcases Nat.eq_zero_or_pos t with rfl | h
    · simp [isPop]
    · have h1 : (2 * t != 0) = true := by simp; omega
      have h2 : (t != 0) = true := by simp; omega
      simp only [isPop, h1, h2, Bool.true_and, and_even t h, isPop_double p]
theorem isPop_popB : ∀ {f s : Nat}, s < 2 ^ f → isPop (popB f s) s = true
  | 0, s, h => by
    have : s = 0 := by simpa using h
    subst this; rfl
  | f + 1, s, h => by
    have h2 : s / 2 < 2 ^ f := by rw [Nat.pow_succ] at h; omega
    have ih := isPop_popB h2
    unfold popB
    rcases Nat.mod_two_eq_zero_or_one s with hr | hr
    · have e : s = 2 * (s / 2) := by omega
      rw [hr, Nat.zero_add]
      conv => lhs; arg 2; rw [e]
      rw [isPop_double]; exact ih
    · have e : s = 2 * (s / 2) + 1 := by omega
      generalize s / 2 = t at *
      rw [hr, Nat.add_comm]
      subst e
      have h1 : (2 * t + 1 != 0) = true := by simp
      simp only [isPop, h1, Bool.true_and, Nat.add_sub_cancel, and_odd, isPop_double]
      exact ih
theorem popB_or : ∀ {f b s : Nat}, b < f → s.testBit b = false → popB f (s ||| 2 ^ b) = popB f s + 1
  | f + 1, 0, s, _, h => by
    rw [Nat.testBit_zero] at h
    have hs : s % 2 = 0 := by
      rcases Nat.mod_two_eq_zero_or_one s with h2 | h2
      · exact h2
      · rw [h2] at h; simp at h
    have h1 : (s ||| 2 ^ 0) % 2 = 1 := Nat.or_mod_two_eq_one.2 (.inr rfl)
    have h2 : (s ||| 2 ^ 0) / 2 = s / 2 := by rw [Nat.or_div_two]; simp
    unfold popB
    rw [h1, h2, hs]; omega
  | f + 1, b + 1, s, hb, h => by
    rw [Nat.testBit_succ] at h
    have h2 : (s ||| 2 ^ (b + 1)) / 2 = s / 2 ||| 2 ^ b := by
      rw [Nat.or_div_two, Nat.pow_succ, Nat.mul_div_cancel _ (by decide)]
    have hp : (2 ^ (b + 1)) % 2 = 0 := by rw [Nat.pow_succ]; omega
    have h1 : (s ||| 2 ^ (b + 1)) % 2 = s % 2 := by
      have := @Nat.or_mod_two_eq_one s (2 ^ (b + 1))
      rw [hp] at this
      have h3 : ¬ ((0 : Nat) = 1) := by decide
      simp only [h3, or_false] at this
      rcases Nat.mod_two_eq_zero_or_one s with h4 | h4
      · rcases Nat.mod_two_eq_zero_or_one (s ||| 2 ^ (b + 1)) with h5 | h5
        · rw [h4, h5]
        · have := this.1 h5; omega
      · rw [this.2 h4, h4]
    unfold popB
    rw [h1, h2, popB_or (by omega) h]; omega
theorem bit_or {s b c : Nat} (h : b ≠ c) : (s ||| 2 ^ b).testBit c = s.testBit c := by
  rw [Nat.testBit_or, Nat.testBit_two_pow, decide_eq_false h, Bool.or_false]
theorem inT_bit {x : Int} (hx : 0 ≤ x ∧ x < 7) {x' y' : Nat} (hx' : x' < 7) (hne : x' ≠ x.toNat) : ∀ (l : List Int) (acc : Nat), (inT x l acc).testBit (7 * y' + x') = acc.testBit (7 * y' + x')
  | [], _ => rfl
  | y :: l, acc => by
    unfold inT
    rw [inT_bit hx hx' hne l]
    split
    · exact bit_or (by omega)
    · rfl
theorem inT_pop {x : Int} (hx : 0 ≤ x ∧ x < 7) : ∀ {l : List Int} {acc : Nat}, l.Nodup → (∀ y ∈ l, 0 ≤ y ∧ y < 7 ∧ acc.testBit (7 * y.toNat + x.toNat) = false) → popB 64 (inT x l acc) = popB 64 acc + l.countP fun e => decide (e < x)
  | [], _, _, _ => by simp [inT]
  | y :: l, acc, hn, h => by
    rw [List.nodup_cons] at hn
    have hy := h y (by simp)
    unfold inT
    rw [List.countP_cons]
    by_cases hc : y < x
    · rw [if_pos ⟨hc, hy.1, hx.2⟩, inT_pop hx hn.2 fun z hz => ?_, popB_or (by omega) hy.2.2, if_pos (by simpa using hc)]
      · omega
      · have hz' := h z (by simp [hz])
        refine ⟨hz'.1, hz'.2.1, ?_⟩
        rw [bit_or]
        · exact hz'.2.2
        · have : y ≠ z := fun e => hn.1 (by rw [e]; exact hz)
          omega
    · rw [if_neg (fun e => hc e.1), inT_pop hx hn.2 fun z hz => h z (by simp [hz]), if_neg (by simpa using hc)]
      omega
def invS : List Int → Nat
  | [] => 0
  | x :: l => (l.countP fun e => decide (e < x)) + invS l
theorem turnS_pop : ∀ {l : List Int} {acc : Nat}, l.Nodup → (∀ x ∈ l, 0 ≤ x ∧ x < 7) → (∀ x ∈ l, ∀ y : Nat, acc.testBit (7 * y + x.toNat) = false) → popB 64 (turnS l acc) = popB 64 acc + invS l
  | [], _, _, _, _ => by simp [turnS, invS]
  | x :: l, acc, hn, h, hb => by
    rw [List.nodup_cons] at hn
    have hx := h x (by simp)
    unfold turnS invS
    rw [turnS_pop hn.2 (fun z hz => h z (by simp [hz])) fun z hz y => ?_, inT_pop hx hn.2 fun z hz => ⟨(h z (by simp [hz])).1, (h z (by simp [hz])).2, hb x (by simp) _⟩]
    · omega
    · have hz7 := h z (by simp [hz])
      have : z ≠ x := fun e => hn.1 (by rw [← e]; exact hz)
      rw [inT_bit hx (by omega) (by omega)]
      exact hb z (by simp [hz]) y
theorem turned_pop {l : List Int} (hn : l.Nodup) (h : ∀ x ∈ l, 0 ≤ x ∧ x < 7) : isPop (invS l) (turnS l 0) = true := by
  have := turnS_pop (acc := 0) hn h (by simp)
  have hz : popB 64 0 = 0 := by decide
  rw [hz, Nat.zero_add] at this
  rw [← this]
  exact isPop_popB (turnS_lt l 0 (by decide))
theorem invS_codes (l : List Int) : (codeS l).sum = (invS l : Int) := by
  induction l with
  | nil => rfl
  | cons x l ih => rw [codeS_cons, List.sum_cons, ih, invS, Int.natCast_add]
end Go.Proofs.Ytbhdddifpgfemaa
