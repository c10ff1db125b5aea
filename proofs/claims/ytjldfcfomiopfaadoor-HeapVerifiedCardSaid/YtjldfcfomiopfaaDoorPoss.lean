/- Whether there is a plan: no span is crowded; a quick reckoning; the examples that each law ends with. -/
import Derived.Test.YtjldfcfomiopfaaDoorSpan
namespace Go.Proofs.YtjldfcfomiopfaaDoor
open Go Go.Proofs.YtjldfcfomiopfaaDoor.AX

theorem fcS_iff (k : Int) (l : List (Int × Int)) : ∀ (n : Nat) (a b : Int), okSpan a b → spanM a b < n →
    (fcS k l n a b = (24, 24) ↔ ∀ a' b' : Int, 0 ≤ a' → a' ≤ b' → b' ≤ 23 → (a < a' ∨ a = a' ∧ b ≤ b') → crowdedS a' b' k l = false)
  | 0, a, b, _, h => by omega
  | n + 1, a, b, hab, hn => by
    unfold fcS
    rcases hab with hin | ⟨rfl, rfl⟩
    · have hne : (a == 24 && b == 24) = false := by
        rw [Bool.and_eq_false_iff]; left; simp; omega
      rw [hne, Bool.false_or]
      obtain ⟨g1, g2⟩ := next_ok hin
      cases hc : crowdedS a b k l with
      | true =>
        rw [if_pos rfl]
        constructor
        · intro h; cases h; omega
        · intro h
          have := h a b hin.1 hin.2.1 hin.2.2 (.inr ⟨rfl, by omega⟩)
          rw [hc] at this; cases this
      | false =>
        rw [if_neg (by decide), fcS_iff k l n _ _ g1 (by omega)]
        constructor
        · intro h a' b' h1 h2 h3 h4
          by_cases he : a' = a ∧ b' = b
          · rw [he.1, he.2]; exact hc
          · refine h a' b' h1 h2 h3 ?_
            unfold nextS
            split
            · rcases h4 with h4 | h4
              · exact .inl h4
              · exact .inr ⟨h4.1, by simp only; omega⟩
            · simp only; omega
        · intro h a' b' h1 h2 h3 h4
          refine h a' b' h1 h2 h3 ?_
          unfold nextS at h4
          split at h4
          · simp only at h4; omega
          · simp only at h4; omega
    · simp
      intro a' b' h1 h2 h3 h4
      omega
theorem possS_iff (k : Int) (l : List (Int × Int)) : possS k l = true ↔ ∀ a b : Int, 0 ≤ a → a ≤ b → b ≤ 23 → crowdedS a b k l = false := by
  have h := fcS_iff k l 601 0 0 (.inl (by omega)) (by decide)
  have e : possS k l = true ↔ firstS k l = (24, 24) := by
    unfold possS
    rw [Bool.and_eq_true, beq_iff_eq, beq_iff_eq]
    constructor
    · rintro ⟨h1, h2⟩; rw [← h1]; exact Prod.ext rfl (by simp [h1, h2])
    · intro h; rw [h]; exact ⟨rfl, rfl⟩
  rw [e]
  refine h.trans ⟨fun g a b h1 h2 h3 => g a b h1 h2 h3 (by omega), fun g a b h1 h2 h3 _ => g a b h1 h2 h3⟩

/-! ### A quick reckoning -/
noncomputable def cntN (a b : Nat) (l : List (Nat × Nat)) : Nat := List.rec 0 (fun h _ ih => bif Nat.ble a h.1 then bif Nat.ble h.2 b then Nat.succ ih else ih else ih) l
def natL (l : List (Nat × Nat)) : List (Int × Int) := l.map fun h => ((h.1 : Int), (h.2 : Int))
theorem cntN_eq (a b : Nat) : ∀ l : List (Nat × Nat), cntN a b l = holdsS a b (natL l)
  | [] => rfl
  | h :: l => by
    have ih := cntN_eq a b l
    have e : cntN a b (h :: l) = bif Nat.ble a h.1 then bif Nat.ble h.2 b then Nat.succ (cntN a b l) else cntN a b l else cntN a b l := rfl
    rw [e, ih]
    simp only [holdsS, natL, List.map_cons, List.countP_cons, inS]
    by_cases h1 : a ≤ h.1
    · rw [Nat.ble_eq_true_of_le h1]
      by_cases h2 : h.2 ≤ b
      · rw [Nat.ble_eq_true_of_le h2]
        simp [Int.ofNat_le.2 h1, Int.ofNat_le.2 h2, h1, h2]
      · have : Nat.ble h.2 b = false := by
          cases hb : Nat.ble h.2 b with
          | false => rfl
          | true => exact absurd (Nat.le_of_ble_eq_true hb) h2
        rw [this]
        simp [h2]
    · have : Nat.ble a h.1 = false := by
        cases hb : Nat.ble a h.1 with
        | false => rfl
        | true => exact absurd (Nat.le_of_ble_eq_true hb) h1
      rw [this]
      simp [h1]
noncomputable def possN (k : Nat) (l : List (Nat × Nat)) : Bool := (List.range 24).all fun a => (List.range 24).all fun b => bif Nat.ble a b then Nat.ble (cntN a b l) (Nat.mul (Nat.sub (Nat.succ b) a) k) else true
theorem possN_eq (k : Nat) (l : List (Nat × Nat)) : possN k l = possS k (natL l) := by
  rw [Bool.eq_iff_iff, possS_iff]
  unfold possN
  simp only [List.all_eq_true, List.mem_range]
  have hmul : ∀ a b : Nat, a ≤ b → ((b : Int) - a + 1) * (k : Int) = ((b + 1 - a) * k : Nat) := by
    intro a b hab
    rw [Int.natCast_mul]; congr 1; omega
  constructor
  · intro h a b h1 h2 h3
    obtain ⟨a, rfl⟩ := Int.eq_ofNat_of_zero_le h1
    obtain ⟨b, rfl⟩ := Int.eq_ofNat_of_zero_le (by omega : 0 ≤ b)
    have := h a (by omega) b (by omega)
    rw [Nat.ble_eq_true_of_le (by omega), cond_true] at this
    have := Nat.le_of_ble_eq_true this
    rw [cntN_eq] at this
    unfold crowdedS
    rw [hmul a b (by omega)]
    simp only [decide_eq_false_iff_not, Int.not_lt]
    exact Int.ofNat_le.2 this
  · intro h a ha b hb
    cases hab : Nat.ble a b with
    | false => rfl
    | true =>
      have hab := Nat.le_of_ble_eq_true hab
      have := h a b (by omega) (by omega) (by omega)
      unfold crowdedS at this
      rw [hmul a b hab, decide_eq_false_iff_not, Int.not_lt] at this
      rw [cond_true, cntN_eq]
      exact Nat.ble_eq_true_of_le (Int.ofNat_le.1 this)
noncomputable def crowdedN (a b k : Nat) (l : List (Nat × Nat)) : Bool := !(Nat.ble (cntN a b l) (Nat.mul (Nat.sub (Nat.succ b) a) k))
theorem crowdedN_eq {a b : Nat} (hab : a ≤ b) (k : Nat) (l : List (Nat × Nat)) : crowdedN a b k l = crowdedS a b k (natL l) := by
  have hmul : ((b : Int) - a + 1) * (k : Int) = ((b + 1 - a) * k : Nat) := by
    rw [Int.natCast_mul]; congr 1; omega
  unfold crowdedN crowdedS
  rw [hmul, cntN_eq]
  cases hb : Nat.ble (holdsS a b (natL l)) (Nat.mul (Nat.sub (Nat.succ b) a) k) with
  | true =>
    have := Nat.le_of_ble_eq_true hb
    symm
    simp only [Bool.not_true, decide_eq_false_iff_not, Int.not_lt]
    exact Int.ofNat_le.2 this
  | false =>
    symm
    simp only [Bool.not_false, decide_eq_true_eq]
    refine Int.ofNat_lt.2 (Nat.lt_of_not_le fun h => ?_)
    have : Nat.ble (holdsS a b (natL l)) (Nat.mul (Nat.sub (Nat.succ b) a) k) = true := Nat.ble_eq_true_of_le h
    rw [hb] at this; cases this
noncomputable def fcN (k : Nat) (l : List (Nat × Nat)) (n : Nat) : Nat → Nat → Nat × Nat :=
  Nat.rec (fun a b => (a, b)) (fun _ ih a b => bif (bif Nat.beq a 24 then Nat.beq b 24 else false) then (a, b) else bif crowdedN a b k l then (a, b) else bif Nat.ble b 22 then forceN (Nat.succ b) fun b => ih a b else forceN (Nat.succ a) fun a => ih a a) n
theorem fcN_eq (k : Nat) (l : List (Nat × Nat)) : ∀ (n a b : Nat), a ≤ b → b ≤ 24 → (a = 24 → b = 24) → fcS k (natL l) n a b = (((fcN k l n a b).1 : Int), ((fcN k l n a b).2 : Int))
  | 0, a, b, _, _, _ => rfl
  | n + 1, a, b, hab, hb, h24 => by
    have e : fcN k l (n + 1) a b = bif (bif Nat.beq a 24 then Nat.beq b 24 else false) then (a, b) else bif crowdedN a b k l then (a, b) else bif Nat.ble b 22 then forceN (Nat.succ b) fun b => fcN k l n a b else forceN (Nat.succ a) fun a => fcN k l n a a := rfl
    rw [e]
    simp only [forceN_eq]
    unfold fcS
    rw [crowdedN_eq hab]
    by_cases hp : a = 24 ∧ b = 24
    · obtain ⟨rfl, rfl⟩ := hp
      simp
    · have e1 : (bif Nat.beq a 24 then Nat.beq b 24 else false) = false := by
        cases h : Nat.beq a 24 with
        | false => rfl
        | true =>
          have := Nat.eq_of_beq_eq_true h
          exact absurd ⟨this, h24 this⟩ hp
      have e2 : ((a : Int) == 24 && (b : Int) == 24) = false := by
        rw [Bool.and_eq_false_iff]; left; simp; omega
      rw [e1, e2, Bool.false_or, cond_false]
      cases hc : crowdedS a b k (natL l) with
      | true => simp
      | false =>
        simp only [Bool.false_eq_true, if_false, cond_false]
        unfold nextS
        by_cases h22 : b ≤ 22
        · rw [Nat.ble_eq_true_of_le h22, cond_true, if_pos (by omega)]
          exact fcN_eq k l n a (b + 1) (by omega) (by omega) (by omega)
        · have : Nat.ble b 22 = false := by
            cases hb : Nat.ble b 22 with
            | false => rfl
            | true => exact absurd (Nat.le_of_ble_eq_true hb) h22
          rw [this, cond_false, if_neg (by omega)]
          exact fcN_eq k l n (a + 1) (a + 1) (by omega) (by omega) (by omega)
theorem firstS_nat (k : Nat) (l : List (Nat × Nat)) : firstS k (natL l) = (((fcN k l 601 0 0).1 : Int), ((fcN k l 601 0 0).2 : Int)) := fcN_eq k l 601 0 0 (by omega) (by omega) (by omega)
end Go.Proofs.YtjldfcfomiopfaaDoor
