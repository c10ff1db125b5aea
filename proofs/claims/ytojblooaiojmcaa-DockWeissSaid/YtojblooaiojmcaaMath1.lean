/- When a cart goes away. -/
import Derived.Test.YtojblooaiojmcaaWay
namespace Go.Proofs.Ytojblooaiojmcaa
open Go

theorem ff_spec (s : Nat) : ∀ (k w : Nat), w ≤ ff s k w ∧ ff s k w ≤ w + k ∧ (∀ c, w ≤ c → c < ff s k w → s.testBit c = true) ∧ (ff s k w < w + k → s.testBit (ff s k w) = false)
  | 0, w => by simp [ff]; intro c h1 h2; omega
  | k + 1, w => by
    rw [ff]
    cases ht : s.testBit w with
    | true =>
      obtain ⟨h1, h2, h3, h4⟩ := ff_spec s k (w + 1)
      simp only [if_true]
      refine ⟨by omega, by omega, fun c hc1 hc2 => ?_, fun h => h4 (by omega)⟩
      rcases Nat.lt_or_ge w c with h5 | h5
      · exact h3 c h5 hc2
      · have : c = w := by omega
        rw [this]; exact ht
    | false =>
      simp only [Bool.false_eq_true, if_false]
      exact ⟨Nat.le_refl _, by omega, fun c h1 h2 => by omega, fun _ => ht⟩

def cnt (l : List Nat) (a : Nat) : Nat := l.countP fun w => decide (a ≤ w)
/-- How many bays from a on, below n, are taken. -/
def bc (n s a : Nat) : Nat := (List.range n).countP fun b => decide (a ≤ b) && s.testBit b
theorem bc_succ (n s a : Nat) : bc (n + 1) s a = bc n s a + if a ≤ n ∧ s.testBit n = true then 1 else 0 := by
  unfold bc
  rw [List.range_succ, List.countP_append]
  simp
theorem bc_le (s a : Nat) : ∀ n, bc n s a ≤ n - a
  | 0 => by simp [bc]
  | n + 1 => by
    rw [bc_succ]
    have := bc_le s a n
    split <;> omega
theorem bc_full {s a : Nat} : ∀ n, (∀ c, a ≤ c → c < n → s.testBit c = true) → bc n s a = n - a
  | 0, _ => by simp [bc]
  | n + 1, h => by
    rw [bc_succ, bc_full n (fun c h1 h2 => h c h1 (by omega))]
    by_cases ha : a ≤ n
    · rw [if_pos ⟨ha, h n ha (by omega)⟩]; omega
    · rw [if_neg (fun h => ha h.1)]; omega
theorem bc_or {s a b : Nat} (hb : s.testBit b = false) : ∀ n, bc n (s ||| 2 ^ b) a = bc n s a + if a ≤ b ∧ b < n then 1 else 0
  | 0 => by simp [bc]
  | n + 1 => by
    rw [bc_succ, bc_succ, bc_or hb n, Nat.testBit_or, Nat.testBit_two_pow]
    by_cases hbn : b = n
    · subst hbn
      simp [hb]
    · have h1 : ¬ (b = n) := hbn
      by_cases h2 : s.testBit n = true <;> by_cases h3 : a ≤ n <;> simp [h1, h2, h3] <;> split <;> split <;> omega

structure PInv (n s : Nat) (pre : List Nat) : Prop where
  le : ∀ a, cnt pre a ≤ bc n s a
  ge : ∀ a, (a = 0 ∨ s.testBit (a - 1) = false) → bc n s a ≤ cnt pre a
theorem PInv.zero (n : Nat) : PInv n 0 [] := ⟨fun a => by simp [cnt], fun a _ => by simp [bc, cnt]⟩
theorem cnt_append (l m : List Nat) (a : Nat) : cnt (l ++ m) a = cnt l a + cnt m a := by simp [cnt]
theorem cnt_cons (w : Nat) (l : List Nat) (a : Nat) : cnt (w :: l) a = (if a ≤ w then 1 else 0) + cnt l a := by
  unfold cnt
  rw [List.countP_cons]
  simp; omega

theorem away_iff (n : Nat) : ∀ (l : List Nat) (s : Nat) (pre : List Nat), PInv n s pre → (∀ w ∈ l, w < n) → (-1 ∈ parkS n s l ↔ ∃ a, a < n ∧ n - a < cnt (pre ++ l) a)
  | [], s, pre, hi, _ => by
    simp only [parkS, List.not_mem_nil, false_iff, List.append_nil]
    rintro ⟨a, ha, h⟩
    have := hi.le a
    have := bc_le s a n
    omega
  | w :: l, s, pre, hi, hw => by
    have hwn : w < n := hw w (by simp)
    obtain ⟨f1, f2, f3, f4⟩ := ff_spec s (n - w) w
    rw [show w + (n - w) = n by omega] at f2 f4
    rw [parkS]
    by_cases hb : ff s (n - w) w < n
    · rw [if_pos hb, nextSet, if_pos hb]
      have hfree := f4 hb
      generalize ff s (n - w) w = b at *
      have hinv : PInv n (s ||| 2 ^ b) (pre ++ [w]) := by
        refine ⟨fun a => ?_, fun a ha => ?_⟩
        · rw [cnt_append, bc_or hfree, cnt_cons]
          have := hi.le a
          simp only [cnt, List.countP_nil, Nat.add_zero] at *
          split <;> split <;> omega
        · rw [cnt_append, bc_or hfree, cnt_cons]
          have ha' : a = 0 ∨ s.testBit (a - 1) = false := by
            rcases ha with ha | ha
            · exact .inl ha
            · rw [Nat.testBit_or, Bool.or_eq_false_iff] at ha; exact .inr ha.1
          have := hi.ge a ha'
          have key : a ≤ b → a ≤ w := by
            intro hab
            rcases Nat.lt_or_ge w a with h | h
            · have := f3 (a - 1) (by omega) (by omega)
              rcases ha' with h0 | h0
              · omega
              · rw [this] at h0; cases h0
            · exact h
          simp only [cnt, List.countP_nil, Nat.add_zero] at *
          split <;> split <;> omega
      have ih := away_iff n l (s ||| 2 ^ b) (pre ++ [w]) hinv (fun w' h => hw w' (by simp [h]))
      rw [List.append_assoc, List.singleton_append] at ih
      rw [← ih]
      simp only [List.mem_cons]
      constructor
      · rintro (h | h)
        · omega
        · exact h
      · exact .inr
    · rw [if_neg hb]
      simp only [List.mem_cons, true_or, true_iff]
      have hfull : ∀ c, w ≤ c → c < n → s.testBit c = true := fun c h1 h2 => f3 c h1 (by omega)
      have : ∀ d a, a ≤ w → a = d → (∀ c, a ≤ c → c < n → s.testBit c = true) → ∃ a, a ≤ w ∧ (∀ c, a ≤ c → c < n → s.testBit c = true) ∧ (a = 0 ∨ s.testBit (a - 1) = false) := by
        intro d
        induction d with
        | zero => rintro a h1 rfl h2; exact ⟨0, h1, h2, .inl rfl⟩
        | succ d ih =>
          rintro a h1 rfl h2
          cases ht : s.testBit d with
          | false => exact ⟨d + 1, h1, h2, .inr ht⟩
          | true =>
            refine ih d (by omega) rfl fun c hc1 hc2 => ?_
            rcases Nat.lt_or_ge d c with h5 | h5
            · exact h2 c h5 hc2
            · have : c = d := by omega
              rw [this]; exact ht
      obtain ⟨a, ha, hfa, hfree⟩ := this w w (Nat.le_refl _) rfl hfull
      refine ⟨a, by omega, ?_⟩
      have h1 := hi.ge a hfree
      rw [bc_full n hfa] at h1
      rw [cnt_append, cnt_cons, if_pos ha]
      omega

/-- Carts go away just if more of them than so many last bays wish for one of these. -/
theorem away_over {n : Nat} {l : List Nat} (hw : ∀ w ∈ l, w < n) : -1 ∈ parkS n 0 l ↔ ∃ k : Nat, 1 ≤ k ∧ k ≤ n ∧ over n (l.map Int.ofNat) k = true := by
  rw [away_iff n l 0 [] (.zero n) hw, List.nil_append]
  have hov : ∀ k : Nat, k ≤ n → (over n (l.map Int.ofNat) k = true ↔ k < cnt l (n - k)) := by
    intro k hk
    simp only [over, decide_eq_true_eq, List.countP_map, cnt]
    have : (l.countP ((fun w : Int => decide ((n : Int) - k ≤ w)) ∘ Int.ofNat)) = l.countP (fun w => decide (n - k ≤ w)) := by
      congr 1
      funext w
      simp only [Function.comp, Int.ofNat_eq_natCast, decide_eq_decide]
      omega
    rw [this]
    omega
  constructor
  · rintro ⟨a, ha, h⟩
    refine ⟨n - a, by omega, by omega, ?_⟩
    rw [hov _ (by omega), show n - (n - a) = a by omega]; exact h
  · rintro ⟨k, h1, h2, h3⟩
    rw [hov k h2] at h3
    exact ⟨n - k, by omega, by rw [show n - (n - k) = k by omega]; exact h3⟩
end Go.Proofs.Ytojblooaiojmcaa
