/- Turns around a circle with one place more. -/
import Derived.Test.YtojblooaiojmcaaProved
namespace Go.Proofs.Ytojblooaiojmcaa
open Go

/-- How many places are turned to the place more by t. -/
def cAt (n : Nat) (l : List Nat) (t : Nat) : Nat := l.countP fun p => decide ((p + t) % (n + 1) = n)
def pS (n : Nat) (l : List Nat) : Nat → Int
  | 0 => 0
  | t + 1 => pS n l t + 1 - cAt n l t
theorem turn_more {n p s j : Nat} (hj : j ≤ n) : (p + s + j) % (n + 1) = n ↔ (p + s) % (n + 1) = n - j := by
  have h1 : (p + s) % (n + 1) < n + 1 := Nat.mod_lt _ (by omega)
  have h2 : (p + s + j) % (n + 1) = ((p + s) % (n + 1) + j) % (n + 1) := by rw [Nat.mod_add_mod]
  rw [h2]
  generalize (p + s) % (n + 1) = r at *
  rcases Nat.lt_or_ge (r + j) (n + 1) with h | h
  · rw [Nat.mod_eq_of_lt h]; omega
  · rw [Nat.mod_eq_sub_mod h, Nat.mod_eq_of_lt (by omega)]; omega
theorem countP_split {l : List Nat} {p q r : Nat → Bool} (h : ∀ x, p x = (q x || r x)) (hd : ∀ x, (q x && r x) = false) : l.countP p = l.countP q + l.countP r := by
  induction l with
  | nil => rfl
  | cons x l ih =>
    rw [List.countP_cons, List.countP_cons, List.countP_cons, ih, h x]
    have h2 := hd x
    revert h2
    cases q x <;> cases r x <;> simp <;> omega
theorem cnt_step (n : Nat) (l : List Nat) (s j : Nat) (hj : j ≤ n) : cnt (turnL n s l) (n - j) = cnt (turnL n s l) (n + 1 - j) + cAt n l (s + j) := by
  unfold cnt turnL cAt
  rw [List.countP_map, List.countP_map]
  apply countP_split
  · intro p
    have := turn_more (p := p) (s := s) hj
    rw [Nat.add_assoc] at this
    have h1 : (p + s) % (n + 1) < n + 1 := Nat.mod_lt _ (by omega)
    rw [Bool.eq_iff_iff]
    simp only [Function.comp, this, decide_eq_true_eq, Bool.or_eq_true]
    omega
  · intro p
    have := turn_more (p := p) (s := s) hj
    rw [Nat.add_assoc] at this
    simp only [Function.comp, this, Bool.and_eq_false_iff, decide_eq_false_iff_not]
    omega
theorem cnt_top (n s : Nat) (l : List Nat) : cnt (turnL n s l) (n + 1) = 0 := by
  rw [cnt, List.countP_eq_zero]
  intro w hw
  obtain ⟨p, -, rfl⟩ := List.mem_map.1 hw
  have : (p + s) % (n + 1) < n + 1 := Nat.mod_lt _ (by omega)
  simp; omega
theorem pS_add (n : Nat) (l : List Nat) (s : Nat) : ∀ j, j ≤ n + 1 → pS n l (s + j) = pS n l s + j - cnt (turnL n s l) (n + 1 - j)
  | 0, _ => by rw [Nat.sub_zero, cnt_top]; simp
  | j + 1, h => by
    have := cnt_step n l s j (by omega)
    rw [← Nat.add_assoc, pS, pS_add n l s j (by omega), show n + 1 - (j + 1) = n - j by omega, this]
    omega
theorem cnt_zero (l : List Nat) : cnt l 0 = l.length := by simp [cnt]
theorem pS_round (n : Nat) (l : List Nat) (s : Nat) : pS n l (s + (n + 1)) = pS n l s + ((n : Int) + 1 - l.length) := by
  rw [pS_add n l s (n + 1) (Nat.le_refl _), Nat.sub_self, cnt_zero, turnL_length]
  omega

theorem servT_iff {n : Nat} {l : List Nat} (h1 : 1 ≤ n) (h8 : n ≤ 8) (hl : l.length ≤ n) (s : Nat) : servT n l s = true ↔ ∀ j, 1 ≤ j → j ≤ n + 1 → pS n l s < pS n l (s + j) := by
  have hle : ∀ w ∈ turnL n s l, w ≤ n := by
    intro w hw
    obtain ⟨p, -, rfl⟩ := List.mem_map.1 hw
    exact Nat.le_of_lt_succ (Nat.mod_lt _ (by omega))
  have hlen := turnL_length n s l
  have hrhs : (∀ j, 1 ≤ j → j ≤ n + 1 → pS n l s < pS n l (s + j)) ↔ ∀ a, a ≤ n → cnt (turnL n s l) a ≤ n - a := by
    constructor
    · intro h a ha
      have := h (n + 1 - a) (by omega) (by omega)
      rw [pS_add n l s _ (by omega), show n + 1 - (n + 1 - a) = a by omega] at this
      omega
    · intro h j hj1 hj2
      have := h (n + 1 - j) (by omega)
      rw [pS_add n l s j hj2]
      omega
  rw [hrhs]
  rw [servT]
  generalize turnL n s l = w at *
  by_cases hw : ∀ x ∈ w, x < n
  · have hck := check_ok h1 h8 (by omega) hw
    rw [hck]
    have haw := away_iff n w 0 [] (.zero n) hw
    rw [List.nil_append] at haw
    simp only [beq_self_eq_true, Bool.true_and, Bool.not_eq_true', decide_eq_false_iff_not, haw]
    constructor
    · intro h a ha
      rcases Nat.lt_or_ge a n with h2 | h2
      · rcases Nat.lt_or_ge (n - a) (cnt w a) with h3 | h3
        · exact absurd ⟨a, h2, h3⟩ h
        · exact h3
      · have : cnt w a = 0 := by
          rw [cnt, List.countP_eq_zero]
          intro x hx
          have := hw x hx
          simp; omega
        omega
    · rintro h ⟨a, ha, h2⟩
      have := h a (by omega)
      omega
  · have hck : (checkS n (w.map Int.ofNat) == 0) = false := by
      rw [beq_eq_false_iff_ne]
      intro h0
      obtain ⟨m', l2, e1, -, -, e2, -, hw2⟩ := checked h0
      have e3 : w = l2 := by
        have := congrArg natL e2
        rwa [natL_of, natL_of] at this
      have e4 : n = m' := by omega
      exact hw (by rw [e3, e4]; exact hw2)
    rw [hck]
    simp only [Bool.false_and, Bool.false_eq_true, false_iff]
    intro h
    have h2 := h n (Nat.le_refl _)
    apply hw
    intro x hx
    rcases Nat.lt_or_ge x n with h3 | h3
    · exact h3
    · have : 0 < cnt w n := List.countP_pos_iff.2 ⟨x, hx, by simpa using h3⟩
      omega

/-- The smallest value from k on, in d + 1 of them. -/
def mn (f : Nat → Int) (k : Nat) : Nat → Int
  | 0 => f k
  | d + 1 => min (mn f k d) (f (k + (d + 1)))
theorem mn_le (f : Nat → Int) (k : Nat) : ∀ d j, j ≤ d → mn f k d ≤ f (k + j)
  | 0, j, h => by have : j = 0 := by omega
                  subst this; exact Int.le_refl _
  | d + 1, j, h => by
    rw [mn]
    rcases Nat.lt_or_ge j (d + 1) with h1 | h1
    · have := mn_le f k d j (by omega); omega
    · have : j = d + 1 := by omega
      subst this; omega
theorem mn_ex (f : Nat → Int) (k : Nat) : ∀ d, ∃ j, j ≤ d ∧ mn f k d = f (k + j)
  | 0 => ⟨0, by omega, rfl⟩
  | d + 1 => by
    obtain ⟨j, h1, h2⟩ := mn_ex f k d
    rw [mn]
    rcases Int.le_total (mn f k d) (f (k + (d + 1))) with h | h
    · exact ⟨j, by omega, by omega⟩
    · exact ⟨d + 1, by omega, by omega⟩

theorem mn_step {n : Nat} {l : List Nat} (hl : l.length ≤ n) (k : Nat) : ((∀ j, 1 ≤ j → j ≤ n + 1 → pS n l k < pS n l (k + j)) → mn (pS n l) (k + 1) (n + 1) = mn (pS n l) k (n + 1) + 1) ∧
    (¬ (∀ j, 1 ≤ j → j ≤ n + 1 → pS n l k < pS n l (k + j)) → mn (pS n l) (k + 1) (n + 1) = mn (pS n l) k (n + 1)) := by
  have hround := pS_round n l (k + 1)
  have hstep : pS n l (k + 1) ≤ pS n l k + 1 := by rw [pS]; omega
  obtain ⟨a, ha, hma⟩ := mn_ex (pS n l) k (n + 1)
  obtain ⟨b, hb, hmb⟩ := mn_ex (pS n l) (k + 1) (n + 1)
  have hle0 := mn_le (pS n l) k (n + 1)
  have hle1 := mn_le (pS n l) (k + 1) (n + 1)
  constructor
  · intro h
    have e0 : mn (pS n l) k (n + 1) = pS n l k := by
      have h00 : mn (pS n l) k (n + 1) ≤ pS n l k := hle0 0 (by omega)
      rcases Nat.eq_zero_or_pos a with h0 | h0
      · rw [hma, h0, Nat.add_zero]
      · have := h a h0 ha; omega
    have e1 : pS n l k < mn (pS n l) (k + 1) (n + 1) := by
      rw [hmb]
      rcases Nat.lt_or_ge b (n + 1) with h2 | h2
      · have := h (b + 1) (by omega) (by omega)
        rwa [show k + 1 + b = k + (b + 1) by omega]
      · have : b = n + 1 := by omega
        subst this
        have := h 1 (by omega) (by omega)
        omega
    have h01 : mn (pS n l) (k + 1) (n + 1) ≤ pS n l (k + 1) := hle1 0 (by omega)
    omega
  · intro h
    have hex : ∃ j, 1 ≤ j ∧ j ≤ n + 1 ∧ pS n l (k + j) ≤ pS n l k := by
      apply Classical.byContradiction
      intro h2
      apply h
      intro j h3 h4
      rcases Int.lt_or_le (pS n l k) (pS n l (k + j)) with h5 | h5
      · exact h5
      · exact absurd ⟨j, h3, h4, h5⟩ h2
    obtain ⟨j, hj1, hj2, hj⟩ := hex
    have e1 := hle1 (j - 1) (by omega)
    rw [show k + 1 + (j - 1) = k + j by omega] at e1
    have g1 : mn (pS n l) (k + 1) (n + 1) ≤ mn (pS n l) k (n + 1) := by
      rw [hma]
      rcases Nat.eq_zero_or_pos a with h0 | h0
      · subst h0
        have h02 : pS n l (k + 0) = pS n l k := rfl
        omega
      · have := hle1 (a - 1) (by omega)
        rwa [show k + 1 + (a - 1) = k + a by omega] at this
    have g2 : mn (pS n l) k (n + 1) ≤ mn (pS n l) (k + 1) (n + 1) := by
      rw [hmb]
      rcases Nat.lt_or_ge b (n + 1) with h2 | h2
      · have := hle0 (b + 1) (by omega)
        rwa [show k + (b + 1) = k + 1 + b by omega] at this
      · have : b = n + 1 := by omega
        subst this
        have := hle0 1 (by omega)
        omega
    omega

theorem turns_mn {n : Nat} {l : List Nat} (h1 : 1 ≤ n) (h8 : n ≤ 8) (hl : l.length ≤ n) : ∀ k, ((turnsL n l k).length : Int) = mn (pS n l) k (n + 1) - mn (pS n l) 0 (n + 1)
  | 0 => by simp [turnsL]
  | k + 1 => by
    rw [turnsL_succ, List.length_append, Int.natCast_add, turns_mn h1 h8 hl k]
    obtain ⟨g1, g2⟩ := mn_step hl k
    have hs := servT_iff h1 h8 hl k
    cases ht : servT n l k with
    | true =>
      rw [ht] at hs
      have := g1 (hs.1 rfl)
      simp; omega
    | false =>
      rw [ht] at hs
      have := g2 (fun h => by have := hs.2 h; cases this)
      simp; omega

/-- Just so many turns serve all. -/
theorem pollak {n : Nat} {l : List Nat} (h1 : 1 ≤ n) (h8 : n ≤ 8) (hl : l.length ≤ n) : (turnsL n l (n + 1)).length = n + 1 - l.length := by
  have h := turns_mn h1 h8 hl (n + 1)
  obtain ⟨a, ha, hma⟩ := mn_ex (pS n l) 0 (n + 1)
  obtain ⟨b, hb, hmb⟩ := mn_ex (pS n l) (n + 1) (n + 1)
  have e1 := mn_le (pS n l) 0 (n + 1) b hb
  have e2 := mn_le (pS n l) (n + 1) (n + 1) a ha
  have r1 := pS_round n l a
  have r2 := pS_round n l b
  rw [show a + (n + 1) = n + 1 + a by omega] at r1
  rw [show b + (n + 1) = n + 1 + b by omega] at r2
  rw [Nat.zero_add] at *
  omega
end Go.Proofs.Ytojblooaiojmcaa
