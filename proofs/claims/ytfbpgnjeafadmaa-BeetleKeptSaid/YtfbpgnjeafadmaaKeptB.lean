/- The best list so far. -/
import Derived.Test.YtfbpgnjeafadmaaKeptM
namespace Go.Proofs.Ytfbpgnjeafadmaa.Fl
open Go Go.Proofs.Ytfbpgnjeafadmaa Go.Proofs.Ytfbpgnjeafadmaa.AX
set_option maxRecDepth 100000

def BestK (adm : (Nat → Bool) → Prop) (o : Nat) (fd : Bool) (W : List Int) : Prop :=
  (fd = false ∧ W = [] ∧ ∀ x, x < o → ¬ adm (tb x)) ∨ (fd = true ∧ ∃ y, y < o ∧ adm (tb y) ∧ W = num (tb y) ∧ ∀ x, x < o → adm (tb x) → leL W (num (tb x)))
variable {adm : (Nat → Bool) → Prop} {o : Nat} {fd : Bool} {W : List Int}
theorem best_no (h : BestK adm o fd W) (hn : ¬ adm (tb o)) : BestK adm (o + 1) fd W := by
  have split : ∀ x, x < o + 1 → x < o ∨ x = o := fun x h => by omega
  rcases h with ⟨h1, h2, h3⟩ | ⟨h1, y, h2, h3, h4, h5⟩
  · refine .inl ⟨h1, h2, fun x hx => ?_⟩
    rcases split x hx with h | rfl
    · exact h3 x h
    · exact hn
  · refine .inr ⟨h1, y, by omega, h3, h4, fun x hx ha => ?_⟩
    rcases split x hx with h | rfl
    · exact h5 x h ha
    · exact absurd ha hn
theorem best_keep (h : BestK adm o true W) (hl : ltL (num (tb o)) W = false) : BestK adm (o + 1) true W := by
  rcases h with ⟨h1, -⟩ | ⟨h1, y, h2, h3, h4, h5⟩
  · cases h1
  · refine .inr ⟨h1, y, by omega, h3, h4, fun x hx ha => ?_⟩
    by_cases h : x < o
    · exact h5 x h ha
    · obtain rfl : x = o := by omega
      exact ltL_no hl
theorem best_take (h : BestK adm o fd W) (ha : adm (tb o)) (hl : fd = true → ltL (num (tb o)) W = true) : BestK adm (o + 1) true (num (tb o)) := by
  refine .inr ⟨rfl, o, by omega, ha, rfl, fun x hx hax => ?_⟩
  by_cases hxo : x < o
  · rcases h with ⟨h1, h2, h3⟩ | ⟨h1, y, h2, h3, h4, h5⟩
    · exact absurd hax (h3 x hxo)
    · exact leL_trans (ltL_le (hl h1)) (h5 x hxo hax)
  · obtain rfl : x = o := by omega
    exact leL_refl _
theorem best_rng (h : BestK adm o fd W) : (∀ x ∈ W, 0 ≤ x ∧ x < 25) ∧ W.length ≤ 25 := by
  rcases h with ⟨-, rfl, -⟩ | ⟨-, y, -, -, rfl, -⟩
  · exact ⟨fun x hx => (by cases hx), by simp⟩
  · refine ⟨fun x hx => ?_, num_len _⟩
    obtain ⟨b, h1, -, rfl⟩ := mem_num.1 hx
    omega
theorem adm_iff {r c n k o fr : Nat} {S Z : Nat → Bool} (ho : o < 4294967296) (hfr : tb fr = freeS n S Z k) : admK r c n S Z k (tb o) ↔ adn o fr = 0 ∧ fitK r c n S Z k (tb o) = true := by
  unfold admK
  refine and_congr_left fun _ => ?_
  rw [← hfr]
  constructor
  · intro h
    refine Nat.eq_of_testBit_eq fun b => ?_
    rw [adn_bit ho, Nat.zero_testBit]
    cases hb : o.testBit b with
    | false => rfl
    | true =>
      have : fr.testBit b = true := h b hb
      rw [this]; rfl
  · intro h b hb
    have h1 := adn_bit (q := fr) ho b
    rw [h, Nat.zero_testBit, show o.testBit b = true from hb, Bool.true_and] at h1
    show fr.testBit b = true
    simpa using h1.symm
theorem free_is {n k s z A : Nat} (hA : tb A = lt' n) (hA32 : A < 4294967296) (_hn : n ≤ 25) : tb (adn (adn (adn A s) z) (1 <<< k)) = freeS n (tb s) (tb z) k := by
  rw [adn_upd (BitVec.isLt _), adn_sub (BitVec.isLt _), adn_sub hA32, hA]
  unfold freeS
  congr 1
  funext b
  simp only [sub', opn]
  cases lt' n b <;> cases tb s b <;> cases tb z b <;> rfl
theorem adm_tb {r c n k : Nat} {S Z U : Nat → Bool} (h : admK r c n S Z k U) : ∃ o, o < 2 ^ n ∧ U = tb o :=
  ⟨mOf U n, mOf_lt _ (Nat.le_refl _), (mOf_fun fun b hb => free_lt (h.1 b hb)).symm⟩
/-- Nothing is found just if there is nothing. -/
theorem best_none {r c n k : Nat} {S Z : Nat → Bool} (h : BestK (admK r c n S Z k) (2 ^ n) false W) (U : Nat → Bool) : ¬ admK r c n S Z k U := by
  intro hU
  obtain ⟨o, ho, rfl⟩ := adm_tb hU
  rcases h with ⟨-, -, h3⟩ | ⟨h1, -⟩
  · exact h3 o ho hU
  · cases h1
theorem best_some {r c n k : Nat} {S Z : Nat → Bool} (h : BestK (admK r c n S Z k) (2 ^ n) true W) : ∃ y, W = num (tb y) ∧ admK r c n S Z k (tb y) ∧ ∀ U, admK r c n S Z k U → leL (num (tb y)) (num U) := by
  rcases h with ⟨h1, -⟩ | ⟨-, y, h2, h3, h4, h5⟩
  · cases h1
  · refine ⟨y, h4, h3, fun U hU => ?_⟩
    obtain ⟨o, ho, rfl⟩ := adm_tb hU
    rw [← h4]
    exact h5 o ho hU
end Go.Proofs.Ytfbpgnjeafadmaa.Fl
