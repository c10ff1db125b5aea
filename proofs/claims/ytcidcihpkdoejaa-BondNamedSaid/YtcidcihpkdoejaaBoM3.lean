/- How many are in a group; any so many may open. -/
import Derived.Test.YtcidcihpkdoejaaBoM2
namespace Go.Proofs.Ytcidcihpkdoejaa.Bo
open Go Go.Proofs.Ytcidcihpkdoejaa Go.Proofs.Ytcidcihpkdoejaa.AX
set_option maxRecDepth 100000

def bt (g i : Nat) : Nat := g / 2 ^ i % 2
def pop (g : Nat) : Nat := bt g 0 + bt g 1 + bt g 2 + bt g 3 + bt g 4 + bt g 5
def keyS (l : List Nat) (h : Nat) : Nat := l.countP fun o => o.testBit h
def anyG (k g : Nat) : Bool := decide (k ≤ pop g)
def sizeS (n k : Nat) : List Nat := (List.range (2 ^ n)).filter fun g => pop g == k
def popB : Bool := (List.range 64).all fun g => (List.range 64).all fun o => !sub o g || decide (pop o ≤ pop g)
theorem pop_all : popB = true := by decide +kernel
theorem pop_mono {g o : Nat} (hg : g < 64) (ho : o < 64) (h : sub o g = true) : pop o ≤ pop g := by
  have h1 := pop_all
  unfold popB at h1
  rw [List.all_eq_true] at h1
  have h2 := h1 g (List.mem_range.2 hg)
  rw [List.all_eq_true] at h2
  have h3 := h2 o (List.mem_range.2 ho)
  simpa [h] using h3
theorem within_least {N : Nat} {so : Nat → Bool} (hm : ∀ a b, a < N → b < N → sub a b = true → so a = true → so b = true) {g : Nat} (hg : g < N) : within (leastS N so) g = so g := by
  cases h : so g with
  | true =>
    obtain ⟨m, m1, m2, m3⟩ := has_least g hg h
    exact within_iff.2 ⟨m, mem_least.2 ⟨by omega, m3⟩, m2⟩
  | false =>
    cases hw : within (leastS N so) g with
    | false => rfl
    | true =>
      obtain ⟨o, ho, hs⟩ := within_iff.1 hw
      obtain ⟨o1, o2⟩ := mem_least.1 ho
      rw [hm o g o1 hg hs (lst_iff.1 o2).1] at h; cases h
def anyB : Bool := (List.range' 1 6).all fun n => (List.range (n + 1)).all fun k =>
  leastS (2 ^ n) (anyG k) == sizeS n k && (mostS (2 ^ n) (anyG k) == (if k = 0 then [] else sizeS n (k - 1))) && (leastS (2 ^ n) (need n (anyG k)) == (if k = 0 then [] else sizeS n (n - k + 1))) && decide ((sizeS n k).length ≤ 20)
    && ((List.range n).all fun x => keyS (leastS (2 ^ n) (need n (anyG k))) x == keyS (leastS (2 ^ n) (need n (anyG k))) 0 && (k == 0 || keyS (leastS (2 ^ n) (need n (anyG k))) x * n == (leastS (2 ^ n) (need n (anyG k))).length * (n - k + 1)))
theorem any_all : anyB = true := by decide +kernel
theorem any_is {n k : Nat} (h1 : 1 ≤ n) (h6 : n ≤ 6) (hk : k ≤ n) : leastS (2 ^ n) (anyG k) = sizeS n k ∧ mostS (2 ^ n) (anyG k) = (if k = 0 then [] else sizeS n (k - 1)) ∧ leastS (2 ^ n) (need n (anyG k)) = (if k = 0 then [] else sizeS n (n - k + 1)) ∧ (sizeS n k).length ≤ 20 ∧
    ∀ x, x < n → keyS (leastS (2 ^ n) (need n (anyG k))) x = keyS (leastS (2 ^ n) (need n (anyG k))) 0 ∧ (k = 0 ∨ keyS (leastS (2 ^ n) (need n (anyG k))) x * n = (leastS (2 ^ n) (need n (anyG k))).length * (n - k + 1)) := by
  have h := any_all
  unfold anyB at h
  rw [List.all_eq_true] at h
  have h2 := h n (by rw [List.mem_range'_1]; omega)
  rw [List.all_eq_true] at h2
  have h3 := h2 k (List.mem_range.2 (by omega))
  simp only [Bool.and_eq_true, beq_iff_eq, decide_eq_true_eq, List.all_eq_true, List.mem_range, Bool.or_eq_true] at h3
  obtain ⟨⟨⟨⟨e1, e2⟩, e3⟩, e4⟩, e5⟩ := h3
  exact ⟨e1, e2, e3, e4, e5⟩
theorem any_within {n k g : Nat} (h1 : 1 ≤ n) (h6 : n ≤ 6) (hk : k ≤ n) (hg : g < 2 ^ n) : within (sizeS n k) g = anyG k g := by
  have h64 := pw64 h6
  rw [← (any_is h1 h6 hk).1]
  refine within_least (fun a b ha hb hs h => ?_) hg
  have := pop_mono (show b < 64 by omega) (show a < 64 by omega) hs
  simp only [anyG, decide_eq_true_eq] at h ⊢
  omega
theorem any_most {n k : Nat} (h1 : 1 ≤ n) (h6 : n ≤ 6) (hk : k ≤ n) : mostS (2 ^ n) (within (sizeS n k)) = (if k = 0 then [] else sizeS n (k - 1)) := by
  rw [← (any_is h1 h6 hk).2.1]
  exact most_congr fun g hg => any_within h1 h6 hk hg
theorem any_locks {n k : Nat} (h1 : 1 ≤ n) (h6 : n ≤ 6) (hk : k ≤ n) : locksS n (sizeS n k) = (if k = 0 then [] else sizeS n (n - k + 1)) := by
  rw [← (any_is h1 h6 hk).2.2.1]
  exact least_congr fun g hg => by rw [need, need, any_within h1 h6 hk (cm_lt n g)]
theorem any_least {n k : Nat} (h1 : 1 ≤ n) (h6 : n ≤ 6) (hk : k ≤ n) : leastS (2 ^ n) (within (sizeS n k)) = sizeS n k := by
  have := least_within (2 ^ n) (anyG k)
  rw [(any_is h1 h6 hk).1] at this; exact this
theorem any_keys {n k x : Nat} (h1 : 1 ≤ n) (h6 : n ≤ 6) (hk : k ≤ n) (hx : x < n) : keyS (locksS n (sizeS n k)) x = keyS (locksS n (sizeS n k)) 0 ∧ (k = 0 ∨ keyS (locksS n (sizeS n k)) x * n = (locksS n (sizeS n k)).length * (n - k + 1)) := by
  have h := (any_is h1 h6 hk).2.2.2.2 x hx
  rw [show leastS (2 ^ n) (need n (anyG k)) = locksS n (sizeS n k) by rw [any_locks h1 h6 hk, (any_is h1 h6 hk).2.2.1]] at h
  exact h
theorem size_ok (n k : Nat) : okG (2 ^ n) (sizeS n k) := fun o h => by
  simp only [sizeS, List.mem_filter, List.mem_range] at h
  exact h.1
end Go.Proofs.Ytcidcihpkdoejaa.Bo
