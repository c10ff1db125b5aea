/- Which turn follows which one around the circle. -/
import Derived.Test.YtjfmiohgkcjdnaaCe
namespace Go.Proofs.Ytjfmiohgkcjdnaa
open Go Go.Proofs.Ytjfmiohgkcjdnaa.AX

def goS (m : Nat) (to : Int) : Nat → Nat → Nat
  | 0, w => w
  | e + 1, w => goS m to e (stepS m to w)
theorem nbS_is {m s t y : Nat} {to : Int} (hm : 0 < m) (ht : t ≤ per m s) (hy : y < t) : ∀ (d n w met : Nat), d < n → goS m to (d + 1) w = y * s % m → (∀ e, e < d → ∀ z, z < t → goS m to (e + 1) w ≠ z * s % m) → nbS m s t to n w met = y
  | _, 0, _, _, h, _, _ => by omega
  | 0, n + 1, w, met, _, h, _ => by
    have h1 : stepS m to w = y * s % m := h
    simp only [nbS, h1, atS_mark hm ht hy]
  | d + 1, n + 1, w, met, h, h1, h2 => by
    have h3 : atS m s (stepS m to w) t 0 = none := (atS_none t 0).2 fun x _ hx e => h2 0 (by omega) x (by omega) e.symm
    simp only [nbS, h3]
    exact nbS_is hm ht hy d n _ _ (by omega) h1 (fun e he z hz => h2 (e + 1) (by omega) z hz)
theorem go_ahead {m : Nat} (hm : 0 < m) : ∀ e w, w < m → goS m 0 e w = (w + e) % m
  | 0, w, h => by rw [goS, Nat.add_zero, Nat.mod_eq_of_lt h]
  | e + 1, w, h => by
    rw [goS, stepS, if_neg (by decide), go_ahead hm e _ (Nat.mod_lt _ hm), Nat.mod_add_mod]
    congr 1; omega
theorem go_behind {m : Nat} (hm : 0 < m) : ∀ e w, w < m → e ≤ m → goS m 1 e w = (w + m - e) % m
  | 0, w, h, _ => by rw [goS, Nat.sub_zero, Nat.add_mod_right, Nat.mod_eq_of_lt h]
  | e + 1, w, h, he => by
    rw [goS, stepS, if_pos rfl, go_behind hm e _ (Nat.mod_lt _ hm) (by omega)]
    by_cases hw : w = 0
    · subst hw
      rw [Nat.zero_add, Nat.mod_eq_of_lt (show m - 1 < m by omega), show m - 1 + m - e = (m - (e + 1)) + m by omega, Nat.add_mod_right]
    · rw [show w + m - 1 = (w - 1) + m by omega, Nat.add_mod_right, Nat.mod_eq_of_lt (show w - 1 < m by omega)]
      congr 1; omega
/-- The mark of the turn at place i around the circle. -/
def mkR (m s t i : Nat) : Nat := markN m s ((roundS m s t).getD i 0)
theorem mkR_get {m s t i : Nat} (h : i < (roundS m s t).length) : mkR m s t i = markN m s ((roundS m s t)[i]) := by
  unfold mkR; rw [List.getD_eq_getElem?_getD, List.getElem?_eq_getElem h]; rfl
theorem mkR_lt {m s t i j : Nat} (hm : 0 < m) (ht : t ≤ per m s) (hij : i < j) (hj : j < t) : mkR m s t i < mkR m s t j := by
  have hl := roundS_len hm ht
  have h := round_sorted m s t
  rw [List.pairwise_map, List.pairwise_iff_getElem] at h
  rw [mkR_get (by omega), mkR_get (by omega)]
  exact h i j (by omega) (by omega) hij
theorem mkR_le {m s t i j : Nat} (hm : 0 < m) (ht : t ≤ per m s) (hij : i ≤ j) (hj : j < t) : mkR m s t i ≤ mkR m s t j := by
  rcases Nat.lt_or_eq_of_le hij with h | h
  · exact Nat.le_of_lt (mkR_lt hm ht h hj)
  · subst h; exact Nat.le_refl _
theorem mkR_max {m s t i : Nat} (hm : 0 < m) : mkR m s t i < m := Nat.mod_lt _ hm
theorem mkR_mem {m s t z : Nat} (hm : 0 < m) (ht : t ≤ per m s) (hz : z < t) : ∃ j, j < t ∧ (roundS m s t)[j]? = some (z : Int) ∧ mkR m s t j = z * s % m := by
  have hl := roundS_len hm ht
  obtain ⟨j, hj, e⟩ := List.mem_iff_getElem.1 ((mem_roundS hm ht).2 ⟨z, hz, rfl⟩)
  refine ⟨j, by omega, by rw [List.getElem?_eq_getElem hj, e], ?_⟩
  rw [mkR_get hj, e, markN, Int.toNat_natCast]
theorem mkR_some {m s t z j : Nat} (h : (roundS m s t)[j]? = some (z : Int)) : mkR m s t j = z * s % m := by
  obtain ⟨hj, e⟩ := List.getElem?_eq_some_iff.1 h
  rw [mkR_get hj, e, markN, Int.toNat_natCast]
theorem mod_wrap {m x : Nat} (h : m ≤ x) (h2 : x < m + m) : x % m = x - m := by
  rw [Nat.mod_eq_sub_mod h, Nat.mod_eq_of_lt (by omega)]
/-- What is met ahead is next around the circle; the turn itself may be one more. -/
theorem nb_ahead {m s t t2 i k y met : Nat} (hm : 0 < m) (ht : t ≤ t2) (ht2 : t2 ≤ per m s) (hi : i < t2) (hk : (roundS m s t2)[i]? = some (k : Int)) (hy : (roundS m s t2)[(i + 1) % t2]? = some (y : Int)) (hyt : y < t) : nbS m s t 0 m (k * s % m) met = y := by
  have ek := mkR_some hk
  have ey := mkR_some hy
  have hmk : k * s % m < m := Nat.mod_lt _ hm
  have hmem : ∀ z, z < t → ∃ j, j < t2 ∧ mkR m s t2 j = z * s % m := fun z hz => by
    obtain ⟨j, h1, -, h3⟩ := mkR_mem (z := z) hm ht2 (by omega); exact ⟨j, h1, h3⟩
  by_cases h : i + 1 < t2
  · rw [Nat.mod_eq_of_lt h] at ey
    have hlt := mkR_lt hm ht2 (Nat.lt_succ_self i) h
    have hmy := mkR_max (s := s) (t := t2) (i := i + 1) hm
    refine nbS_is hm (by omega) hyt (mkR m s t2 (i + 1) - mkR m s t2 i - 1) m _ _ (by omega) ?_ ?_
    · rw [go_ahead hm _ _ hmk, ← ek, ← ey, Nat.mod_eq_of_lt] <;> simp only [Nat.succ_eq_add_one] at * <;> omega
    · intro e he z hz hc
      obtain ⟨j, hj, ej⟩ := hmem z hz
      rw [go_ahead hm _ _ hmk, ← ek, ← ej, Nat.mod_eq_of_lt (by omega)] at hc
      by_cases hji : j ≤ i
      · have := mkR_le hm ht2 hji hi; omega
      · have := mkR_le hm ht2 (show i + 1 ≤ j by omega) hj; omega
  · have hi' : i + 1 = t2 := by omega
    rw [hi', Nat.mod_self] at ey
    have hle := mkR_le (s := s) hm ht2 (Nat.zero_le i) hi
    refine nbS_is hm (by omega) hyt (m - mkR m s t2 i + mkR m s t2 0 - 1) m _ _ (by omega) ?_ ?_
    · rw [go_ahead hm _ _ hmk, ← ek, ← ey]
      have h0 := mkR_max (s := s) (t := t2) (i := 0) hm
      have h1 := mkR_max (s := s) (t := t2) (i := i) hm
      rw [mod_wrap (by omega) (by omega)]; omega
    · intro e he z hz hc
      obtain ⟨j, hj, ej⟩ := hmem z hz
      rw [go_ahead hm _ _ hmk, ← ek, ← ej] at hc
      have h0 := mkR_le (s := s) hm ht2 (Nat.zero_le j) hj
      have h1 := mkR_le (s := s) hm ht2 (show j ≤ i by omega) hi
      have h2 := mkR_max (s := s) (t := t2) (i := i) hm
      by_cases hw : mkR m s t2 i + (e + 1) < m
      · rw [Nat.mod_eq_of_lt hw] at hc; omega
      · rw [mod_wrap (by omega) (by omega)] at hc; omega
theorem nb_behind {m s t t2 i k y met : Nat} (hm : 0 < m) (ht : t ≤ t2) (ht2 : t2 ≤ per m s) (hi : i < t2) (hk : (roundS m s t2)[i]? = some (k : Int)) (hy : (roundS m s t2)[(i + (t2 - 1)) % t2]? = some (y : Int)) (hyt : y < t) : nbS m s t 1 m (k * s % m) met = y := by
  have ek := mkR_some hk
  have ey := mkR_some hy
  have hmk : k * s % m < m := Nat.mod_lt _ hm
  have hmem : ∀ z, z < t → ∃ j, j < t2 ∧ mkR m s t2 j = z * s % m := fun z hz => by
    obtain ⟨j, h1, -, h3⟩ := mkR_mem (z := z) hm ht2 (by omega); exact ⟨j, h1, h3⟩
  by_cases h : 0 < i
  · rw [show i + (t2 - 1) = (i - 1) + t2 by omega, Nat.add_mod_right, Nat.mod_eq_of_lt (show i - 1 < t2 by omega)] at ey
    have hlt := mkR_lt (s := s) hm ht2 (show i - 1 < i by omega) hi
    have hmy := mkR_max (s := s) (t := t2) (i := i) hm
    refine nbS_is hm (by omega) hyt (mkR m s t2 i - mkR m s t2 (i - 1) - 1) m _ _ (by omega) ?_ ?_
    · rw [go_behind hm _ _ hmk (by omega), ← ek, ← ey, mod_wrap (by omega) (by omega)]; omega
    · intro e he z hz hc
      obtain ⟨j, hj, ej⟩ := hmem z hz
      rw [go_behind hm _ _ hmk (by omega), ← ek, ← ej, mod_wrap (by omega) (by omega)] at hc
      by_cases hji : i ≤ j
      · have := mkR_le (s := s) hm ht2 hji hj; omega
      · have := mkR_le (s := s) hm ht2 (show j ≤ i - 1 by omega) (by omega); omega
  · have hi' : i = 0 := by omega
    subst hi'
    rw [Nat.zero_add, Nat.mod_eq_of_lt (by omega)] at ey
    have hle := mkR_le (s := s) hm ht2 (Nat.zero_le (t2 - 1)) (by omega)
    have h1 := mkR_max (s := s) (t := t2) (i := t2 - 1) hm
    refine nbS_is hm (by omega) hyt (mkR m s t2 0 + m - mkR m s t2 (t2 - 1) - 1) m _ _ (by omega) ?_ ?_
    · rw [go_behind hm _ _ hmk (by omega), ← ek, ← ey, Nat.mod_eq_of_lt (by omega)]; omega
    · intro e he z hz hc
      obtain ⟨j, hj, ej⟩ := hmem z hz
      rw [go_behind hm _ _ hmk (by omega), ← ek, ← ej] at hc
      have h0 := mkR_le (s := s) hm ht2 (Nat.zero_le j) hj
      have h2 := mkR_le (s := s) hm ht2 (show j ≤ t2 - 1 by omega) (by omega)
      by_cases hw : mkR m s t2 0 + m - (e + 1) < m
      · rw [Nat.mod_eq_of_lt hw] at hc; omega
      · rw [mod_wrap (by omega) (by omega)] at hc; omega
end Go.Proofs.Ytjfmiohgkcjdnaa
