/- All sets of locks: the fewest that do what a rule says. -/
import Derived.Test.YtcidcihpkdoejaaPub3
import Derived.Test.YtcidcihpkdoejaaBoM4
namespace Go.Proofs.Ytcidcihpkdoejaa.Bo
open Go Go.Proofs.Ytcidcihpkdoejaa Go.Proofs.Ytcidcihpkdoejaa.AX
set_option maxRecDepth 100000
/-- The locks of a set. -/
def setK (N s : Nat) : List Nat := (List.range N).filter fun x => s.testBit x
def fitB (N : Nat) (l : List Nat) (s : Nat) : Bool := (List.range N).all fun g => !dfS l (setK N s) g
def fewS (N : Nat) (l : List Nat) : Nat → Nat
  | 0 => 100
  | s + 1 => if fitB N l s then min (fewS N l s) (setK N s).length else fewS N l s
theorem few_le {N : Nat} {l : List Nat} : ∀ {S s : Nat}, s < S → fitB N l s = true → fewS N l S ≤ (setK N s).length
  | S + 1, s, hs, hf => by
    rw [fewS]
    by_cases h : s = S
    · subst h; rw [if_pos hf]; exact Nat.min_le_right _ _
    · have := few_le (N := N) (l := l) (S := S) (s := s) (by omega) hf
      split
      · exact Nat.le_trans (Nat.min_le_left _ _) this
      · exact this
theorem few_ge {N m : Nat} {l : List Nat} (hm : m ≤ 100) (h : ∀ s, fitB N l s = true → m ≤ (setK N s).length) : ∀ S, m ≤ fewS N l S
  | 0 => hm
  | S + 1 => by
    have ih := few_ge hm h S
    rw [fewS]
    split
    · rename_i hf; exact Nat.le_min.2 ⟨ih, h S hf⟩
    · exact ih
theorem few_100 (N : Nat) (l : List Nat) : ∀ S, fewS N l S ≤ 100
  | 0 => Nat.le_refl _
  | S + 1 => by
    have := few_100 N l S
    rw [fewS]; split
    · exact Nat.le_trans (Nat.min_le_left _ _) this
    · exact this
theorem fit_iff {N : Nat} {l : List Nat} {s : Nat} : fitB N l s = true ↔ ∀ g, g < N → meets (setK N s) g = within l g := by
  unfold fitB dfS
  simp only [List.all_eq_true, List.mem_range, Bool.not_eq_true', bne_eq_false_iff_eq]
  exact ⟨fun h g hg => (h g hg).symm, fun h g hg => (h g hg).symm⟩
/-- As many locks as are made are the fewest. -/
theorem few_is {n : Nat} (hn : n ≤ 6) (l : List Nat) : fewS (2 ^ n) l (2 ^ 2 ^ n) = (locksS n l).length := by
  have hl : (locksS n l).length ≤ 2 ^ n := least_len _ _
  have h64 := pw64 hn
  apply Nat.le_antisymm
  · have hs := grp_lt (2 ^ n) (lst (2 ^ n) (need n (within l)))
    have hk : setK (2 ^ n) (grp (2 ^ n) (lst (2 ^ n) (need n (within l)))) = locksS n l := by
      unfold setK locksS leastS
      apply List.filter_congr
      intro x hx
      rw [grp_bit, decide_eq_true (List.mem_range.1 hx), Bool.true_and]
    have := few_le hs (fit_iff.2 fun g hg => by rw [hk, locks_fit hg])
    rw [hk] at this; exact this
  · refine few_ge (by omega) (fun s hs => ?_) _
    rw [locks_len]
    exact no_fewer (fit_iff.1 hs)
/-- The first group of some that is so. -/
def fD (p : Nat → Bool) : Nat → Nat → Int
  | 0, _ => -1
  | k + 1, j => if p j then (j : Int) else fD p k (j + 1)
theorem fD_find (p : Nat → Bool) : ∀ k j, fD p k j = match (List.range' j k).find? p with | some x => (x : Int) | none => -1
  | 0, _ => rfl
  | k + 1, j => by
    rw [fD, List.range'_succ, List.find?_cons]
    cases h : p j with
    | true => rfl
    | false => simpa using fD_find p k (j + 1)
theorem fD_fit (N : Nat) (p : Nat → Bool) : (fD p N 0 < 0 ∧ fitG N p = 0 ∧ fitE N p = 13 ∧ ∀ g, g < N → p g = false) ∨ (0 ≤ fD p N 0 ∧ (fitG N p : Int) = fD p N 0 ∧ fitE N p = 0 ∧ ∃ g, g < N ∧ p g = true) := by
  rw [fD_find, ← List.range_eq_range']
  unfold fitG fitE
  cases h : (List.range N).find? p with
  | none =>
    left
    refine ⟨by simp, by simp, by simp, fun g hg => ?_⟩
    have := List.find?_eq_none.1 h g (List.mem_range.2 hg)
    simpa using this
  | some x =>
    right
    obtain ⟨h1, h2, -⟩ := List.find?_range_eq_some.1 h
    exact ⟨by simp, by simp, by simp, x, List.mem_range.1 h2, h1⟩
theorem fits_ok {n : Nat} {l k : List Nat} (h1 : OkR n l) (h2 : OkR n k) : fitsG n (il l) n (il k) = fitG (2 ^ n) (dfS l k) ∧ fitsE n (il l) n (il k) = fitE (2 ^ n) (dfS l k) := by
  unfold fitsG fitsE
  simp only [ok_chk h1, ok_chk h2, ne_eq, not_true_eq_false, if_false, il_nat, Int.toNat_natCast]
  exact ⟨trivial, trivial⟩
theorem setK_ok (N s : Nat) : okG N (setK N s) := fun o h => by
  simp only [setK, List.mem_filter, List.mem_range] at h; exact h.1
theorem setK_len (N s : Nat) : (setK N s).length ≤ N := filter_len _
theorem putL_look (k : Int) (v : AV) (x : Int) : ∀ M : List (Int × AV), (putL k v M).lookup x = if x = k then some v else M.lookup x
  | [] => by
    by_cases h : x = k
    · subst h; simp [putL]
    · simp [putL, List.lookup, h, show (x == k) = false by simpa using h]
  | p :: M => by
    have ih := putL_look k v x M
    unfold putL
    by_cases hk : k = p.1
    · rw [if_pos (by simpa using hk)]
      by_cases h : x = k
      · subst h; simp [List.lookup]
      · have h2 : (x == p.1) = false := by rw [← hk]; simpa using h
        have h1 : (x == k) = false := by simpa using h
        simp [List.lookup, h, h1, h2]
    · rw [if_neg (by simpa using hk)]
      by_cases h : x = p.1
      · have h2 : x ≠ k := fun e => hk (by rw [← e, h])
        simp [List.lookup, h, show ¬ p.1 = k from fun e => hk e.symm]
      · have h2 : (x == p.1) = false := by simpa using h
        simp only [List.lookup, h2, ih]
end Go.Proofs.Ytcidcihpkdoejaa.Bo
