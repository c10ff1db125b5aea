/- What follows a turn follows it by the same steps as long as no turn is missing: widths of gaps. -/
import Derived.Test.YtjfmiohgkcjdnaaMc
import Derived.Test.YtjfmiohgkcjdnaaMe
import Derived.Test.YtjfmiohgkcjdnaaAx6
import Derived.Test.YtjfmiohgkcjdnaaMa
namespace Go.Proofs.Ytjfmiohgkcjdnaa
open Go Go.Proofs.Ytjfmiohgkcjdnaa.AX

/-- How far it is ahead from one mark to another one. -/
def dd (m a b : Nat) : Nat := (b + m - a) % m
theorem dd_cases {m a b : Nat} (ha : a < m) (hb : b < m) : (a ≤ b ∧ dd m a b = b - a) ∨ (b < a ∧ dd m a b = b + m - a) := by
  unfold dd
  by_cases h : a ≤ b
  · left; refine ⟨h, ?_⟩
    rw [mod_wrap (by omega) (by omega)]; omega
  · right; refine ⟨by omega, Nat.mod_eq_of_lt (by omega)⟩
theorem X_add {m s : Nat} (hm : 0 < m) (i j : Nat) : (i + j) * s % m = i * s % m + j * s % m ∨ (i + j) * s % m + m = i * s % m + j * s % m := by
  rw [Nat.add_mul, Nat.add_mod]
  have h1 := Nat.mod_lt (i * s) hm
  have h2 := Nat.mod_lt (j * s) hm
  generalize i * s % m = x at *
  generalize j * s % m = y at *
  by_cases h : x + y < m
  · left; exact Nat.mod_eq_of_lt h
  · right; rw [mod_wrap (by omega) (by omega)]; omega
theorem X_add' {m s i j k : Nat} (hm : 0 < m) (h : i + j = k) : k * s % m = i * s % m + j * s % m ∨ k * s % m + m = i * s % m + j * s % m := by
  subst h; exact X_add hm i j
theorem X_lt {m s : Nat} (hm : 0 < m) (i : Nat) : i * s % m < m := Nat.mod_lt _ hm
theorem X_ne {m s i j : Nat} (hm : 0 < m) (hi : i < per m s) (hj : j < per m s) (h : i ≠ j) : i * s % m ≠ j * s % m := fun e => h (mark_inj hm hi hj e)
theorem exists_min (f : Nat → Nat) : ∀ n, ∃ a, 1 ≤ a ∧ a ≤ n + 1 ∧ ∀ z, 1 ≤ z → z ≤ n + 1 → f a ≤ f z
  | 0 => ⟨1, by omega, by omega, fun z h1 h2 => by rw [show z = 1 by omega]; exact Nat.le_refl _⟩
  | n + 1 => by
    obtain ⟨a, h1, h2, h3⟩ := exists_min f n
    by_cases h : f a ≤ f (n + 2)
    · exact ⟨a, h1, by omega, fun z z1 z2 => by
        by_cases e : z = n + 2
        · rw [e]; exact h
        · exact h3 z z1 (by omega)⟩
    · refine ⟨n + 2, by omega, by omega, fun z z1 z2 => ?_⟩
      by_cases e : z = n + 2
      · rw [e]; exact Nat.le_refl _
      · have := h3 z z1 (by omega); omega
/-- The turns beside turn 0. -/
structure Ab (m s t a b : Nat) : Prop where
  a1 : 1 ≤ a
  a2 : a < t
  b1 : 1 ≤ b
  b2 : b < t
  lo : ∀ z, 1 ≤ z → z < t → a * s % m ≤ z * s % m
  hi : ∀ z, 1 ≤ z → z < t → z * s % m ≤ b * s % m
theorem exists_ab (m s : Nat) {t : Nat} (hm : 0 < m) (ht : 2 ≤ t) : ∃ a b, Ab m s t a b := by
  obtain ⟨a, h1, h2, h3⟩ := exists_min (fun k => k * s % m) (t - 2)
  obtain ⟨b, h4, h5, h6⟩ := exists_min (fun k => m - k * s % m) (t - 2)
  refine ⟨a, b, h1, by omega, h4, by omega, fun z z1 z2 => h3 z z1 (by omega), fun z z1 z2 => ?_⟩
  have := h6 z z1 (by omega)
  have := X_lt (s := s) hm z
  have := X_lt (s := s) hm b
  omega
section
variable {m s t a b : Nat}
theorem Ab.pos (h : Ab m s t a b) (hm : 0 < m) (ht : t ≤ per m s) : 0 < a * s % m := by
  have := X_ne (s := s) (i := a) (j := 0) hm (by have := h.a2; omega) (by have := h.a2; omega) (by have := h.a1; omega)
  simp at this
  omega
theorem Ab.sum (h : Ab m s t a b) (hm : 0 < m) (ht : t ≤ per m s) : t ≤ a + b := by
  rcases Nat.lt_or_ge (a + b) t with h1 | h1
  · have h2 := h.lo (a + b) (by have := h.a1; omega) h1
    have h3 := h.hi (a + b) (by have := h.a1; omega) h1
    have h4 := X_add (s := s) hm a b
    have h5 := h.pos hm ht
    have h6 := X_lt (s := s) hm b
    omega
  · exact h1
/-- A turn that follows by a steps. -/
theorem Ab.one (h : Ab m s t a b) (hm : 0 < m) (ht : t ≤ per m s) {k : Nat} (hk : k + a < t) : dd m (k * s % m) ((k + a) * s % m) = a * s % m ∧ ∀ z, z < t → z ≠ k → a * s % m ≤ dd m (k * s % m) (z * s % m) := by
  have h1 := X_add (s := s) hm k a
  have p := h.pos hm ht
  have xk := X_lt (s := s) hm k
  have xa := X_lt (s := s) hm a
  have xs := X_lt (s := s) hm (k + a)
  refine ⟨?_, fun z hz hzk => ?_⟩
  · have := dd_cases xk xs; omega
  · have xz := X_lt (s := s) hm z
    have h2 := dd_cases xk xz
    have h3 := X_ne (s := s) (i := z) (j := k) hm (by omega) (by omega) hzk
    rcases Nat.lt_or_ge k z with h4 | h4
    · have h5 := X_add' (s := s) (i := k) (j := z - k) (k := z) hm (by omega)
      have h5x := X_lt (s := s) hm (z - k)
      have h5y := X_lt (s := s) hm (k)
      have h6 := h.lo (z - k) (by omega) (by omega)
      omega
    · have h5 := X_add' (s := s) (i := z) (j := k + a - z) (k := k + a) hm (by omega)
      have h5x := X_lt (s := s) hm (k + a - z)
      have h5y := X_lt (s := s) hm (z)
      have h6 := h.lo (k + a - z) (by omega) (by omega)
      omega
/-- A turn that follows by b steps back. -/
theorem Ab.two (h : Ab m s t a b) (hm : 0 < m) (ht : t ≤ per m s) {k : Nat} (hk : k < t) (hb : b ≤ k) : dd m (k * s % m) ((k - b) * s % m) = m - b * s % m ∧ ∀ z, z < t → z ≠ k → m - b * s % m ≤ dd m (k * s % m) (z * s % m) := by
  have h1 := X_add' (s := s) (i := k - b) (j := b) (k := k) hm (by omega)
  have h1x := X_lt (s := s) hm (b)
  have h1y := X_lt (s := s) hm (k - b)
  have p := h.pos hm ht
  have pb := h.hi a h.a1 h.a2
  have xk := X_lt (s := s) hm k
  have xb := X_lt (s := s) hm b
  have xs := X_lt (s := s) hm (k - b)
  refine ⟨?_, fun z hz hzk => ?_⟩
  · have := dd_cases xk xs; omega
  · have xz := X_lt (s := s) hm z
    have h2 := dd_cases xk xz
    have h3 := X_ne (s := s) (i := z) (j := k) hm (by omega) (by omega) hzk
    rcases Nat.lt_or_ge k z with h4 | h4
    · have h5 := X_add' (s := s) (i := k - b) (j := z - (k - b)) (k := z) hm (by omega)
      have h5x := X_lt (s := s) hm (z - (k - b))
      have h5y := X_lt (s := s) hm (k - b)
      have h6 := h.hi (z - (k - b)) (by omega) (by have := h.b1; omega)
      omega
    · have h5 := X_add' (s := s) (i := z) (j := k - z) (k := k) hm (by omega)
      have h5x := X_lt (s := s) hm (k - z)
      have h5y := X_lt (s := s) hm (z)
      have h6 := h.hi (k - z) (by omega) (by omega)
      omega
theorem Ab.ne (h : Ab m s t a b) (hm : 0 < m) (ht : t ≤ per m s) {k : Nat} (hk : t ≤ k + a) (hb : k < b) : a * s % m < b * s % m := by
  have h0 := h.hi a h.a1 h.a2
  rcases Nat.lt_or_eq_of_le h0 with h1 | h1
  · exact h1
  · exfalso
    have hab : a = b := mark_inj hm (by have := h.a2; omega) (by have := h.b2; omega) h1
    have key : ∀ z, 1 ≤ z → z < t → z = a := fun z z1 z2 => by
      have := h.lo z z1 z2
      have := h.hi z z1 z2
      exact mark_inj (s := s) hm (by omega) (by have := h.a2; omega) (by omega)
    have := h.a1
    have := h.a2
    have := key 1 (by omega) (by omega)
    have := key (t - 1) (by omega) (by omega)
    omega
/-- Where one is missing, the gap is as wide as two others. -/
theorem Ab.both (h : Ab m s t a b) (hm : 0 < m) (ht : t ≤ per m s) {k : Nat} (hk : t ≤ k + a) (hb : k < b) : dd m (k * s % m) ((k + a - b) * s % m) = a * s % m + (m - b * s % m) ∧ ∀ z, z < t → z ≠ k → a * s % m + (m - b * s % m) ≤ dd m (k * s % m) (z * s % m) := by
  have hne := h.ne hm ht hk hb
  have b2 := h.b2
  have a2 := h.a2
  have h0 := X_add (s := s) hm k a
  have h1 := X_add' (s := s) (i := k + a - b) (j := b) (k := k + a) hm (by omega)
  have h1x := X_lt (s := s) hm (b)
  have h1y := X_lt (s := s) hm (k + a - b)
  have p := h.pos hm ht
  have xk := X_lt (s := s) hm k
  have xa := X_lt (s := s) hm a
  have xb := X_lt (s := s) hm b
  have xs := X_lt (s := s) hm (k + a - b)
  have xka := X_lt (s := s) hm (k + a)
  refine ⟨?_, fun z hz hzk => ?_⟩
  · have := dd_cases xk xs; omega
  · have xz := X_lt (s := s) hm z
    have h2 := dd_cases xk xz
    have h3 := X_ne (s := s) (i := z) (j := k) hm (by omega) (by omega) hzk
    rcases Nat.lt_or_ge k z with h4 | h4
    · have h5 := X_add' (s := s) (i := k) (j := z - k) (k := z) hm (by omega)
      have h5x := X_lt (s := s) hm (z - k)
      have h5y := X_lt (s := s) hm (k)
      have h6 := h.lo (z - k) (by omega) (by omega)
      have h7 := X_ne (s := s) (i := z - k) (j := a) hm (by omega) (by omega) (by omega)
      have h8 := X_add' (s := s) (i := z - k) (j := a - (z - k)) (k := a) hm (by omega)
      have h8x := X_lt (s := s) hm (a - (z - k))
      have h8y := X_lt (s := s) hm (z - k)
      have h9 := h.hi (a - (z - k)) (by omega) (by omega)
      omega
    · have h5 := X_add' (s := s) (i := z) (j := k - z) (k := k) hm (by omega)
      have h5x := X_lt (s := s) hm (k - z)
      have h5y := X_lt (s := s) hm (z)
      have h6 := h.hi (k - z) (by omega) (by omega)
      have h7 := X_ne (s := s) (i := k - z) (j := b) hm (by omega) (by omega) (by omega)
      have h8 := X_add' (s := s) (i := k - z) (j := b - (k - z)) (k := b) hm (by omega)
      have h8x := X_lt (s := s) hm (b - (k - z))
      have h8y := X_lt (s := s) hm (k - z)
      have h9 := h.lo (b - (k - z)) (by omega) (by omega)
      omega
/-- What follows a turn. -/
def nx (t a b k : Nat) : Nat := if k + a < t then k + a else if b ≤ k then k - b else k + a - b
def wd (m s t a b k : Nat) : Nat := if k + a < t then a * s % m else if b ≤ k then m - b * s % m else a * s % m + (m - b * s % m)
theorem Ab.nx_lt (h : Ab m s t a b) (hm : 0 < m) (ht : t ≤ per m s) {k : Nat} (hk : k < t) : nx t a b k < t ∧ nx t a b k ≠ k := by
  have := h.sum hm ht
  have := h.a2
  have := h.b2
  have := h.a1
  have := h.b1
  unfold nx
  split
  · omega
  · split
    · omega
    · rename_i h1 h2
      refine ⟨by omega, fun e => ?_⟩
      have := h.ne hm ht (k := k) (by omega) (by omega)
      have : a = b := by omega
      subst this; omega
theorem Ab.next (h : Ab m s t a b) (hm : 0 < m) (ht : t ≤ per m s) {k : Nat} (hk : k < t) : dd m (k * s % m) (nx t a b k * s % m) = wd m s t a b k ∧ ∀ z, z < t → z ≠ k → wd m s t a b k ≤ dd m (k * s % m) (z * s % m) := by
  unfold nx wd
  split
  · exact h.one hm ht (by assumption)
  · split
    · exact h.two hm ht hk (by assumption)
    · exact h.both hm ht (by omega) (by omega)
theorem wd_pos (h : Ab m s t a b) (hm : 0 < m) (ht : t ≤ per m s) (k : Nat) : 0 < wd m s t a b k := by
  have p := h.pos hm ht
  have xb := X_lt (s := s) hm b
  unfold wd
  split
  · exact p
  · split <;> omega
/-- What is nearest ahead is met first. -/
theorem nb_min {k y met : Nat} (hm : 0 < m) (ht : t ≤ per m s) (hy : y < t) (hp : 0 < dd m (k * s % m) (y * s % m)) (h : ∀ z, z < t → z ≠ k → dd m (k * s % m) (y * s % m) ≤ dd m (k * s % m) (z * s % m)) : nbS m s t 0 m (k * s % m) met = y := by
  have xk := X_lt (s := s) hm k
  have xy := X_lt (s := s) hm y
  have hd := dd_cases xk xy
  refine nbS_is hm ht hy (dd m (k * s % m) (y * s % m) - 1) m _ _ (by omega) ?_ ?_
  · rw [go_ahead hm _ _ xk]
    rcases hd with h1 | h1
    · rw [Nat.mod_eq_of_lt (by omega)]; omega
    · rw [mod_wrap (by omega) (by omega)]; omega
  · intro e he z hz hc
    rw [go_ahead hm _ _ xk] at hc
    have xz := X_lt (s := s) hm z
    have hzd := dd_cases xk xz
    by_cases hzk : z = k
    · subst hzk
      by_cases hw : z * s % m + (e + 1) < m
      · rw [Nat.mod_eq_of_lt hw] at hc; omega
      · rw [mod_wrap (by omega) (by omega)] at hc; omega
    · have := h z hz hzk
      by_cases hw : k * s % m + (e + 1) < m
      · rw [Nat.mod_eq_of_lt hw] at hc; omega
      · rw [mod_wrap (by omega) (by omega)] at hc; omega
theorem nb_min' {k y met : Nat} (hm : 0 < m) (ht : t ≤ per m s) (hy : y < t) (hp : 0 < dd m (y * s % m) (k * s % m)) (h : ∀ z, z < t → z ≠ k → dd m (y * s % m) (k * s % m) ≤ dd m (z * s % m) (k * s % m)) : nbS m s t 1 m (k * s % m) met = y := by
  have xk := X_lt (s := s) hm k
  have xy := X_lt (s := s) hm y
  have hd := dd_cases xy xk
  refine nbS_is hm ht hy (dd m (y * s % m) (k * s % m) - 1) m _ _ (by omega) ?_ ?_
  · rw [go_behind hm _ _ xk (by omega)]
    rcases hd with h1 | h1
    · rw [mod_wrap (by omega) (by omega)]; omega
    · rw [Nat.mod_eq_of_lt (by omega)]; omega
  · intro e he z hz hc
    rw [go_behind hm _ _ xk (by omega)] at hc
    have xz := X_lt (s := s) hm z
    have hzd := dd_cases xz xk
    by_cases hzk : z = k
    · subst hzk
      by_cases hw : z * s % m + m - (e + 1) < m
      · rw [Nat.mod_eq_of_lt hw] at hc; omega
      · rw [mod_wrap (by omega) (by omega)] at hc; omega
    · have := h z hz hzk
      by_cases hw : k * s % m + m - (e + 1) < m
      · rw [Nat.mod_eq_of_lt hw] at hc; omega
      · rw [mod_wrap (by omega) (by omega)] at hc; omega
/-- What is nearest ahead of k has k nearest behind it. -/
theorem back_min {k y : Nat} (hm : 0 < m) (ht : t ≤ per m s) (hk : k < t) (hy : y < t) (_hky : y ≠ k) (h : ∀ z, z < t → z ≠ k → dd m (k * s % m) (y * s % m) ≤ dd m (k * s % m) (z * s % m)) : ∀ z, z < t → z ≠ y → dd m (k * s % m) (y * s % m) ≤ dd m (z * s % m) (y * s % m) := by
  intro z hz hzy
  by_cases hzk : z = k
  · rw [hzk]; exact Nat.le_refl _
  · have xk := X_lt (s := s) hm k
    have xy := X_lt (s := s) hm y
    have xz := X_lt (s := s) hm z
    have h1 := h z hz hzk
    have h2 := dd_cases xk xy
    have h3 := dd_cases xk xz
    have h4 := dd_cases xz xy
    have h5 := X_ne (s := s) (i := z) (j := k) hm (by omega) (by omega) hzk
    have h6 := X_ne (s := s) (i := z) (j := y) hm (by omega) (by omega) hzy
    omega
theorem Ab.ahead (h : Ab m s t a b) (hm : 0 < m) (ht : t ≤ per m s) {k : Nat} (hk : k < t) (met : Nat) : nbS m s t 0 m (k * s % m) met = nx t a b k := by
  obtain ⟨h1, h2⟩ := h.next hm ht hk
  have h3 := wd_pos h hm ht k
  exact nb_min hm ht (h.nx_lt hm ht hk).1 (by omega) (fun z hz hzk => by rw [h1]; exact h2 z hz hzk)
theorem Ab.behind (h : Ab m s t a b) (hm : 0 < m) (ht : t ≤ per m s) {k : Nat} (hk : k < t) (met : Nat) : nbS m s t 1 m (nx t a b k * s % m) met = k := by
  obtain ⟨h1, h2⟩ := h.next hm ht hk
  obtain ⟨h4, h5⟩ := h.nx_lt hm ht hk
  have h3 := wd_pos h hm ht k
  refine nb_min' hm ht hk (by omega) (back_min hm ht hk h4 h5 fun z hz hzk => by rw [h1]; exact h2 z hz hzk)
end
end Go.Proofs.Ytjfmiohgkcjdnaa

/- Widths of gaps; where one turn more begins. -/
namespace Go.Proofs.Ytjfmiohgkcjdnaa
open Go Go.Proofs.Ytjfmiohgkcjdnaa.AX

section
variable {m s t a b : Nat}
theorem gapsS_get (hm : 0 < m) (ht : t ≤ per m s) {i : Nat} (hi : i < t) : (gapsS m s t)[i]? = some (((if i + 1 < t then mkR m s t (i + 1) else m : Nat) : Int) - (mkR m s t i : Nat)) := by
  have hl := roundS_len hm ht
  unfold gapsS
  rw [gapL_get m _ i (by simp; omega)]
  congr 2
  · by_cases h : i + 1 < t
    · rw [if_pos h, mkR_get (by omega), List.getD_eq_getElem?_getD, List.getElem?_map, List.getElem?_eq_getElem (by omega)]; rfl
    · rw [if_neg h, List.getD_eq_getElem?_getD, List.getElem?_eq_none (by simp; omega)]; rfl
  · rw [mkR_get (by omega), List.getD_eq_getElem?_getD, List.getElem?_map, List.getElem?_eq_getElem (by omega)]; rfl
theorem mkR_zero (hm : 0 < m) (ht : t ≤ per m s) (h1 : 1 ≤ t) : mkR m s t 0 = 0 := by
  obtain ⟨j, hj, -, e⟩ := mkR_mem (z := 0) hm ht (by omega)
  simp at e
  have := mkR_le hm ht (Nat.zero_le j) hj
  omega
theorem Ab.gap (h : Ab m s t a b) (hm : 0 < m) (ht : t ≤ per m s) {i k : Nat} (hi : i < t) (hk : (roundS m s t)[i]? = some (k : Int)) (hkt : k < t) : (gapsS m s t)[i]? = some ((wd m s t a b k : Nat) : Int) := by
  have h2t : 2 ≤ t := by have := h.a1; have := h.a2; omega
  have ek := mkR_some hk
  obtain ⟨h1, h2⟩ := h.next hm ht hkt
  obtain ⟨h3, h4⟩ := h.nx_lt hm ht hkt
  obtain ⟨j, hj, hj2, ej⟩ := mkR_mem hm ht h3
  have hji : j ≠ i := fun e => by
    subst e
    rw [hk] at hj2
    have := Option.some.inj hj2
    omega
  have xk := X_lt (s := s) hm k
  have xy := X_lt (s := s) hm (nx t a b k)
  have hd := dd_cases xk xy
  rw [gapsS_get hm ht hi]
  congr 1
  have z0 := mkR_zero (s := s) hm ht (by omega)
  by_cases hl : i + 1 < t
  · rw [if_pos hl]
    obtain ⟨y, hy, hyi⟩ := round_get (i := i + 1) hm ht hl
    have ey := mkR_some hyi
    have hyk : y ≠ k := fun e => by
      rw [e] at hyi
      have := round_inj hm ht hk hyi; omega
    have h5 := h2 y hy hyk
    have hlt := mkR_lt (s := s) hm ht (Nat.lt_succ_self i) hl
    have xy2 := X_lt (s := s) hm y
    have hd2 := dd_cases xk xy2
    simp only [Nat.succ_eq_add_one] at hlt
    rcases Nat.lt_or_gt_of_ne hji with h6 | h6
    · have := mkR_lt (s := s) hm ht h6 hi
      have := mkR_max (s := s) (t := t) (i := i + 1) hm
      omega
    · have := mkR_le (s := s) hm ht (show i + 1 ≤ j by omega) hj
      omega
  · rw [if_neg hl]
    have hi0 : 0 < i := by omega
    have h00 : (roundS m s t)[0]? = some ((0 : Nat) : Int) := by
      obtain ⟨y, hy, hyi⟩ := round_get (i := 0) hm ht (by omega)
      have ey := mkR_some hyi
      have : y = 0 := mark_inj (s := s) hm (by omega) (by omega) (by simp; omega)
      rw [hyi, this]
    have hk0 : 0 ≠ k := fun e => by
      rw [← e] at hk
      have := round_inj hm ht hk h00; omega
    have h5 := h2 0 (by omega) hk0
    have hlt := mkR_lt (s := s) hm ht hi0 hi
    have x0 : 0 * s % m = 0 := by simp
    rw [x0] at h5
    have hd2 := dd_cases xk hm
    have hjl := mkR_lt (s := s) hm ht (show j < i by omega) hi
    omega
theorem Ab.gaps (h : Ab m s t a b) (hm : 0 < m) (ht : t ≤ per m s) (x : Int) : x ∈ gapsS m s t ↔ ∃ k, k < t ∧ x = (wd m s t a b k : Nat) := by
  have hgl := gapsS_len hm ht
  constructor
  · intro hx
    obtain ⟨i, hi, e⟩ := List.mem_iff_getElem.1 hx
    obtain ⟨k, hk, hki⟩ := round_get (i := i) hm ht (by omega)
    have := h.gap hm ht (by omega) hki hk
    rw [List.getElem?_eq_getElem hi, e] at this
    exact ⟨k, hk, Option.some.inj this⟩
  · rintro ⟨k, hk, rfl⟩
    obtain ⟨i, hi, hki, -⟩ := mkR_mem hm ht hk
    exact List.mem_of_getElem? (h.gap hm ht hi hki hk)
/-- Gaps are no wider than both widths together. -/
theorem wd_le (k : Nat) (h : Ab m s t a b) (_hm : 0 < m) (_ht : t ≤ per m s) : wd m s t a b k ≤ a * s % m + (m - b * s % m) := by
  unfold wd
  have := h.a1
  split
  · omega
  · split <;> omega
/-- One turn more begins in a widest gap, between these. -/
theorem Ab.more (h : Ab m s t a b) (hm : 0 < m) (ht : t < per m s) : ∃ f g, f < t ∧ g < t ∧ g = nx t a b f ∧
    (∀ z, z < t → dd m (f * s % m) (t * s % m) ≤ dd m (z * s % m) (t * s % m)) ∧ (∀ z, z < t → dd m (t * s % m) (g * s % m) ≤ dd m (t * s % m) (z * s % m)) ∧ 0 < dd m (f * s % m) (t * s % m) ∧ dd m (f * s % m) (t * s % m) < wd m s t a b f ∧ 0 < dd m (t * s % m) (g * s % m) ∧ dd m (t * s % m) (g * s % m) ≤ wd m s t a b f ∧ ∀ k, k < t → wd m s t a b k ≤ wd m s t a b f := by
  have hsum := h.sum hm (Nat.le_of_lt ht)
  have p := h.pos hm (Nat.le_of_lt ht)
  have a1 := h.a1
  have a2 := h.a2
  have b1 := h.b1
  have b2 := h.b2
  have xa := X_lt (s := s) hm a
  have xb := X_lt (s := s) hm b
  have xt := X_lt (s := s) hm t
  have hab := h.hi a a1 a2
  have xt0 := X_ne (s := s) (i := t) (j := 0) hm (by omega) (by omega) (by omega)
  have x0 : 0 * s % m = 0 := by simp
  rw [x0] at xt0
  have hz : ∀ z, 1 ≤ z → z < t → a * s % m ≤ dd m (z * s % m) (t * s % m) ∧ m - b * s % m ≤ dd m (t * s % m) (z * s % m) := by
    intro z z1 z2
    have xz := X_lt (s := s) hm z
    have h5 := X_add' (s := s) (i := z) (j := t - z) (k := t) hm (by omega)
    have h6 := h.lo (t - z) (by omega) (by omega)
    have h7 := h.hi (t - z) (by omega) (by omega)
    have h8 := dd_cases xz xt
    have h9 := dd_cases xt xz
    have h10 := X_ne (s := s) (i := z) (j := t) hm (by omega) (by omega) (by omega)
    omega
  have hd0 := dd_cases hm xt
  have hd1 := dd_cases xt hm
  by_cases hab2 : t < a + b
  · -- between t - a and t - b
    have xf := X_lt (s := s) hm (t - a)
    have xg := X_lt (s := s) hm (t - b)
    have hf := X_add' (s := s) (i := t - a) (j := a) (k := t) hm (by omega)
    have hg := X_add' (s := s) (i := t - b) (j := b) (k := t) hm (by omega)
    have f1 := h.lo (t - a) (by omega) (by omega)
    have f2 := h.hi (t - a) (by omega) (by omega)
    have g1 := h.lo (t - b) (by omega) (by omega)
    have g2 := h.hi (t - b) (by omega) (by omega)
    have w1 := X_add' (s := s) (i := t - a) (j := a + b - t) (k := b) hm (by omega)
    have w2 := X_add' (s := s) (i := t - b) (j := a + b - t) (k := a) hm (by omega)
    have xw := X_lt (s := s) hm (a + b - t)
    have w3 := h.lo (a + b - t) (by omega) (by omega)
    have w4 := h.hi (a + b - t) (by omega) (by omega)
    have lo0 : a * s % m ≤ t * s % m := by omega
    have hi0 : t * s % m ≤ b * s % m := by omega
    have c1 := dd_cases xf xt
    have c2 := dd_cases xt xg
    have e1 : dd m ((t - a) * s % m) (t * s % m) = a * s % m := by omega
    have e2 : dd m (t * s % m) ((t - b) * s % m) = m - b * s % m := by omega
    have en : nx t a b (t - a) = t - b := by
      unfold nx
      rw [if_neg (by omega), if_neg (by omega)]; omega
    have ew : wd m s t a b (t - a) = a * s % m + (m - b * s % m) := by
      unfold wd
      rw [if_neg (by omega), if_neg (by omega)]
    refine ⟨t - a, t - b, by omega, by omega, en.symm, fun z hzt => ?_, fun z hzt => ?_, by omega, by omega, by omega, by omega, fun k _ => by rw [ew]; exact wd_le k h hm (Nat.le_of_lt ht)⟩
    · rw [e1]
      by_cases z0 : z = 0
      · subst z0; rw [x0]; omega
      · exact (hz z (by omega) hzt).1
    · rw [e2]
      by_cases z0 : z = 0
      · subst z0; rw [x0]; omega
      · exact (hz z (by omega) hzt).2
  · have hs : a + b = t := by omega
    have hx := X_add' (s := s) (i := a) (j := b) (k := t) hm hs
    have wk : ∀ k, k < t → wd m s t a b k ≤ a * s % m ∨ wd m s t a b k ≤ m - b * s % m := fun k hk => by
      unfold wd
      split
      · left; omega
      · rw [if_pos (by omega)]; right; omega
    rcases hx with hx | hx
    · -- between b and 0
      have c1 := dd_cases xb xt
      have e1 : dd m (b * s % m) (t * s % m) = a * s % m := by omega
      have en : nx t a b b = 0 := by
        unfold nx
        rw [if_neg (by omega), if_pos (Nat.le_refl _)]; omega
      have ew : wd m s t a b b = m - b * s % m := by
        unfold wd
        rw [if_neg (by omega), if_pos (Nat.le_refl _)]
      refine ⟨b, 0, b2, by omega, en.symm, fun z hzt => ?_, fun z hzt => ?_, by omega, by omega, by rw [x0]; omega, by rw [x0]; omega, fun k hk => by rw [ew]; have := wk k hk; omega⟩
      · rw [e1]
        by_cases z0 : z = 0
        · subst z0; rw [x0]; omega
        · exact (hz z (by omega) hzt).1
      · rw [x0]
        by_cases z0 : z = 0
        · subst z0; rw [x0]; exact Nat.le_refl _
        · have := (hz z (by omega) hzt).2; omega
    · -- between 0 and a
      have c2 := dd_cases xt xa
      have e2 : dd m (t * s % m) (a * s % m) = m - b * s % m := by omega
      have en : nx t a b 0 = a := by
        unfold nx
        rw [if_pos (by omega)]; omega
      have ew : wd m s t a b 0 = a * s % m := by
        unfold wd
        rw [if_pos (by omega)]
      refine ⟨0, a, by omega, a2, en.symm, fun z hzt => ?_, fun z hzt => ?_, by rw [x0]; omega, by rw [x0]; omega, by omega, by omega, fun k hk => by rw [ew]; have := wk k hk; omega⟩
      · rw [x0]
        by_cases z0 : z = 0
        · subst z0; rw [x0]; exact Nat.le_refl _
        · have := (hz z (by omega) hzt).1; omega
      · rw [e2]
        by_cases z0 : z = 0
        · subst z0; rw [x0]; omega
        · exact (hz z (by omega) hzt).2
end
end Go.Proofs.Ytjfmiohgkcjdnaa

/- Gaps of a sorted list; the greatest of a list. -/
namespace Go.Proofs.Ytjfmiohgkcjdnaa
open Go Go.Proofs.Ytjfmiohgkcjdnaa.AX

/-- The marks in ascending order. -/
def sortM (m s t : Nat) : List Int := ((roundS m s t).map (markN m s)).map fun (x : Nat) => (x : Int)
theorem sortM_len {m s t : Nat} (hm : 0 < m) (ht : t ≤ per m s) : (sortM m s t).length = t := by simp [sortM, roundS_len hm ht]
theorem sortM_get {m s t i : Nat} (hi : i < (sortM m s t).length) : (sortM m s t)[i] = (mkR m s t i : Nat) := by
  have : i < (roundS m s t).length := by simpa [sortM] using hi
  simp [sortM, mkR_get this]
theorem mem_marksT {m s t : Nat} (hm : 0 < m) (ht : t ≤ per m s) (z : Nat) : z ∈ (roundS m s t).map (markN m s) ↔ ∃ k, k < t ∧ z = k * s % m := by
  simp only [List.mem_map, mem_roundS hm ht]
  constructor
  · rintro ⟨x, ⟨k, hk, rfl⟩, rfl⟩; exact ⟨k, hk, rfl⟩
  · rintro ⟨k, hk, rfl⟩; exact ⟨k, ⟨k, hk, rfl⟩, rfl⟩
theorem sortM_eq {m s t : Nat} {l : List Int} (hm : 0 < m) (ht : t ≤ per m s) (hp : l.Perm (markL m s t)) (hs : l.Pairwise (· ≤ ·)) : l = sortM m s t := by
  have hnat : ∀ x ∈ l, ∃ k, k < t ∧ x = ((k * s % m : Nat) : Int) := fun x hx => by
    have := hp.mem_iff.1 hx
    simp only [markL, List.mem_map, List.mem_range] at this
    obtain ⟨k, hk, e⟩ := this
    exact ⟨k, hk, e.symm⟩
  have hnd : l.Nodup := by
    refine hp.symm.nodup ?_
    unfold markL
    refine List.Pairwise.map _ (R := fun a b => a < b ∧ b < t) (fun a b h e => ?_) ?_
    · exact X_ne (s := s) (i := a) (j := b) hm (by omega) (by omega) (by omega) (by omega)
    · rw [List.pairwise_iff_getElem]
      intro i j hi hj hij
      simp at hi hj ⊢
      omega
  have hst : l.Pairwise (· < ·) := by
    have := hs.and hnd
    exact this.imp fun {a b} h => by have := h.1; have := h.2; omega
  have e1 : l.map Int.toNat = (roundS m s t).map (markN m s) := by
    refine sorted_ext ?_ (round_sorted m s t) (fun z => ?_)
    · rw [List.pairwise_map]
      exact hst.imp_of_mem fun {a b} ha hb hab => by
        obtain ⟨k, -, e⟩ := hnat a ha
        obtain ⟨k2, -, e2⟩ := hnat b hb
        omega
    · rw [mem_marksT hm ht]
      simp only [List.mem_map]
      constructor
      · rintro ⟨x, hx, rfl⟩
        obtain ⟨k, hk, e⟩ := hnat x hx
        exact ⟨k, hk, by omega⟩
      · rintro ⟨k, hk, rfl⟩
        refine ⟨((k * s % m : Nat) : Int), hp.mem_iff.2 ?_, Int.toNat_natCast _⟩
        simp only [markL, List.mem_map, List.mem_range]
        exact ⟨k, hk, rfl⟩
  unfold sortM
  rw [← e1, List.map_map]
  conv => lhs; rw [← List.map_id l]
  refine List.map_congr_left fun x hx => ?_
  obtain ⟨k, -, e⟩ := hnat x hx
  simp; omega
theorem lgaps_ac (m s t : Nat) (h1 : 1 ≤ m) (h2 : m ≤ 100) (h3 : s < m) (h4 : 1 ≤ t) (h5 : t ≤ per m s) (H : AH) (Q : AV → AH → Prop) (h : ∀ v H', OwnF H.length H' v ((gapsS m s t).map (.int .i64)) → Ext H H' → Q v H') : AC Try.prog 46 [WV m s t] H Q := by
  refine L_body 42 Try.func46 rfl rfl ?_
  refine L_reg [1] (fun K hK => ?_)
  simp [AV.isU, acells, WV]
  apply hK; clear hK K
  obtain ⟨H1, e, hE, -, -, b⟩ := box3 H m s t
  rw [e]
  have hm0 : 0 < m := by omega
  have hpm := per_le m s
  refine L_reg [1, 3] (fun K hK => ?_)
  simp [okFn_low, b.la]
  refine marks_ac m s t h1 h2 h3 (by omega) _ _ (fun v1 H2 hO1 hE2 => ?_)
  have hL1 := hO1.own.ls
  obtain ⟨r1', ver1, hv1⟩ := hO1.len
  have hone : v1.one = true := by rw [hv1]; rfl
  simp [okFn_low]
  refine values_ac v1 hone _ _ ?_
  have hE3 := Ext.push H2 [AObj.row [v1] 0 0 false]
  have hrow : (H2 ++ [AObj.row [v1] 0 0 false])[H2.length]? = some (.row [v1] 0 0 false) := by simp
  have hL1 := hL1.ext hE3
  generalize H2 ++ [AObj.row [v1] 0 0 false] = H3 at hE3 hrow hL1 ⊢
  simp [okFn_low]
  refine Sorted_ac (markL m s t) v1 H2.length H3 _ (by rw [markL_len]; omega) (by rw [markL_len]; omega) hrow hL1 (fun v2 H4 M hp hs hO4 hE4 => ?_)
  simp
  apply hK; clear hK K
  have hM := sortM_eq hm0 h5 hp hs
  subst hM
  have hE14 := hE2.trans (hE3.trans hE4)
  have b4 := b.ext hE14
  have hl := sortM_len (s := s) hm0 h5
  have hgl := gapsS_len (m := m) (s := s) hm0 h5
  have hget := fun i => sortM_get (m := m) (s := s) (t := t) (i := i)
  have hgg := fun i (hi : i < t) => gapsS_get (s := s) hm0 h5 hi
  have hLs : Ls H4 v2 (sortM m s t) := hO4.own.ls
  clear hp hs hO4 hO1 hL1 hrow
  generalize sortM m s t = L at *
  generalize gapsS m s t = G at *
  refine L_reg [1, 3, 4] (fun K hK => ?_)
  simp
  apply hK; clear hK K
  obtain ⟨r0, off0, ver0, sz0, full0, rfl, -⟩ := id hLs
  refine L_reg [1, 3, 4, 11, 12, 13] (fun K hK => ?_)
  simp [hl]
  apply hK; clear hK K
  refine L_block (L_loopV [4, 13] (fun n vs H' => ∃ (i : Nat) (u : AV), n = t - i ∧ i ≤ t ∧ vs = [u, .int .i64 i] ∧ OwnF H4.length H' u ((G.take i).map (.int .i64)) ∧ Ext H4 H') _ [.slice none 0 0 0 1 false, .int .i64 0] rfl ⟨0, _, rfl, by omega, rfl, .nil _ _, .refl _⟩ ?_)
  rintro n _ H5 ⟨i, u, rfl, hi, rfl, hO5, hE5⟩
  have b5 := b4.ext hE5
  obtain ⟨r2, off, ver, sz, full, he, hld⟩ := hLs.ext hE5
  cases he
  refine L_reg [1, 3, 4, 11, 12, 13, 14] (fun K hK => ?_)
  simp
  apply hK; clear hK K
  refine L_dec (i < t) (by simp) (fun hlt => ?_) (fun hge => L_exit ?_)
  · refine L_block ?_
    obtain ⟨r', rfl, rfl, hrd⟩ := hld i (by omega)
    rw [hget] at hrd
    have hgi := hgg i hlt
    have hmr := mkR_max (s := s) (t := t) (i := i) hm0
    have hmr2 := mkR_max (s := s) (t := t) (i := i + 1) hm0
    have fin : ∀ (x : Nat), (if i + 1 < t then mkR m s t (i + 1) else m) = x → G.take (i + 1) = G.take i ++ [(x : Int) - (mkR m s t i : Nat)] := fun x hx => by
      rw [hx] at hgi
      rw [List.take_add_one, hgi]; rfl
    generalize hmk : mkR m s t i = mk at *
    refine L_reg [1, 3, 4, 5, 6, 11, 12, 13] (fun K hK => ?_)
    simp [hrd, hlt]
    apply hK; clear hK K
    refine L_reg [1, 3, 4, 5, 6, 11, 12, 13, 22] (fun K hK => ?_)
    simp [wrap_i64 (a := (i : Int) + 1) (by omega)]
    apply hK; clear hK K
    by_cases hlt2 : i + 1 < t
    · obtain ⟨r3, hr3, -, hrd2⟩ := hld (i + 1) (by omega)
      cases hr3
      rw [hget] at hrd2
      have fin := fin _ (if_pos hlt2)
      generalize hmk2 : mkR m s t (i + 1) = mk2 at *
      refine L_true (by simp; omega) ?_
      obtain ⟨v', H6, happ, hO6, hE6⟩ := ownF_append hE5 el36 el36 (x := .int .i64 ((mk2 : Int) - (mk : Nat))) (m := 1) hO5 rfl (by simp; omega)
      refine L_reg [1, 3, 4, 11, 12, 13] (fun K hK => ?_)
      simp [wrap_i64 (a := (i : Int) + 1) (by omega), hrd2, show (0 : Int) ≤ (i : Int) + 1 by omega, show (i : Int) + 1 < t by omega, show ((i : Int) + 1).toNat = i + 1 by omega, wrap_i64 (a := (mk2 : Int) - (mk : Nat)) (by omega), happ]
      apply hK; clear hK K
      refine L_reg [1, 3, 4, 11, 12, 13] (fun K hK => ?_)
      simp [wrap_i64 (a := (i : Int) + 1) (by omega)]
      apply hK; clear hK K
      exact ⟨t - (i + 1), [v', .int .i64 ((i + 1 : Nat) : Int)], by omega, by simp, i + 1, v', rfl, by omega, rfl, by rw [fin]; simpa using hO6, hE6⟩
    · have fin := fin _ (if_neg hlt2)
      refine L_false (by simp; omega) ?_
      obtain ⟨v', H6, happ, hO6, hE6⟩ := ownF_append hE5 el36 el36 (x := .int .i64 ((m : Int) - (mk : Nat))) (m := 1) hO5 rfl (by simp; omega)
      refine L_reg [1, 3, 4, 11, 12, 13] (fun K hK => ?_)
      simp [b5.l0, wrap_i64 (a := (m : Int) - (mk : Nat)) (by omega), happ]
      apply hK; clear hK K
      refine L_reg [1, 3, 4, 11, 12, 13] (fun K hK => ?_)
      simp [wrap_i64 (a := (i : Int) + 1) (by omega)]
      apply hK; clear hK K
      exact ⟨t - (i + 1), [v', .int .i64 ((i + 1 : Nat) : Int)], by omega, by simp, i + 1, v', rfl, by omega, rfl, by rw [fin]; simpa using hO6, hE6⟩
  · have hi' : i = t := by omega
    refine L_reg [2] (fun K hK => ?_)
    simp
    apply hK; clear hK K
    have : G.take i = G := by rw [List.take_of_length_le (by omega)]
    rw [this] at hO5
    exact L_ret ⟨.inr rfl, _, rfl, h u H5 (hO5.mono (by have := hE.1; have := hE14.1; omega)) (hE.trans (hE14.trans hE5))⟩
theorem Max_ac (v : AV) (l : List Int) (x : Int) (H : AH) (Q : AV → AH → Prop) (hlen : l.length ≤ 1000000) (hv : Ls H v l) (hx : x ∈ l) (hmax : ∀ y ∈ l, y ≤ x) (h : Q (.int .i64 x) H) : AC Try.prog 51 [v] H Q := by
  obtain ⟨r, off, ver, sz, full, rfl, hld⟩ := hv
  have hpos : 0 < l.length := by cases l with | nil => simp at hx | cons => simp
  refine L_body 25 Try.func51 rfl rfl ?_
  refine L_reg [0] (fun K hK => ?_)
  simp
  apply hK; clear hK K
  refine L_reg [0, 7] (fun K hK => ?_)
  simp
  apply hK; clear hK K
  refine L_false (by simp; omega) ?_
  obtain ⟨r', rfl, rfl, hrd0⟩ := hld 0 hpos
  simp only [Nat.add_zero] at hrd0
  have hfirst : ∀ j (h : j < l.length), j < 1 → l[j] ≤ l[0] := fun j hj h => by
    obtain rfl : j = 0 := by omega
    exact Int.le_refl _
  refine L_reg [0, 3] (fun K hK => ?_)
  simp [hpos, hrd0]
  apply hK; clear hK K
  refine L_reg [0, 3, 4] (fun K hK => ?_)
  simp
  apply hK; clear hK K
  refine L_block (L_loopV [3, 4] (fun n vs H' => ∃ (i : Nat) (c : Int), n = l.length - i ∧ 1 ≤ i ∧ i ≤ l.length ∧ c ∈ l ∧ (∀ j (h : j < l.length), j < i → l[j] ≤ c) ∧ vs = [.int .i64 c, .int .i64 i] ∧ H = H') _ [.int .i64 l[0], .int .i64 1] rfl ⟨1, l[0], rfl, by omega, by omega, by simp, hfirst, rfl, rfl⟩ ?_)
  rintro n _ _ ⟨i, c, rfl, hi1, hi, hc, hcm, rfl, rfl⟩
  refine L_reg [0, 3, 4, 15] (fun K hK => ?_)
  simp
  apply hK; clear hK K
  refine L_dec (i < l.length) (by simp) (fun hlt => ?_) (fun hge => L_exit ?_)
  · refine L_block ?_
    obtain ⟨r2, hr2, -, hrd⟩ := hld i hlt
    cases hr2
    refine L_reg [0, 3, 4] (fun K hK => ?_)
    simp [hrd, hlt]
    apply hK; clear hK K
    refine L_reg [0, 3, 4] (fun K hK => ?_)
    simp [wrap_i64 (a := (i : Int) + 1) (by omega)]
    apply hK; clear hK K
    refine ⟨l.length - (i + 1), [.int .i64 (max c l[i]), .int .i64 ((i + 1 : Nat) : Int)], by omega, by simp, i + 1, max c l[i], rfl, by omega, by omega, ?_, fun j hj h => ?_, rfl, rfl⟩
    · rcases Int.le_total c l[i] with h | h
      · rw [Int.max_eq_right h]; exact List.getElem_mem hlt
      · rw [Int.max_eq_left h]; exact hc
    · by_cases e : j = i
      · subst e; exact Int.le_max_right _ _
      · exact Int.le_trans (hcm j hj (by omega)) (Int.le_max_left _ _)
  · have e : c = x := by
      obtain ⟨j, hj, ej⟩ := List.mem_iff_getElem.1 hx
      have h1 := hcm j hj (by omega)
      have h2 := hmax c hc
      omega
    subst e
    refine L_reg [2] (fun K hK => ?_)
    simp
    apply hK; clear hK K
    exact L_ret ⟨.inr rfl, _, rfl, h⟩
end Go.Proofs.Ytjfmiohgkcjdnaa

/- One turn more divides a widest gap: WrapDivided, walked. -/
namespace Go.Proofs.Ytjfmiohgkcjdnaa
open Go Go.Proofs.Ytjfmiohgkcjdnaa.AX

/-- What holds of the turns beside one more, however many turns there are. -/
theorem div_facts {m s t : Nat} (h1 : 1 ≤ m) (h4 : 1 ≤ t) (ht : t < per m s) : ∃ f g gp : Nat, f < t ∧ g < t ∧ (∀ met, nbS m s t 1 m (t * s % m) met = f) ∧ (∀ met, nbS m s t 0 m (t * s % m) met = g) ∧ (∀ met, nbS m s t 0 m (f * s % m) met = g) ∧
    (if dd m (f * s % m) (g * s % m) = 0 then m else dd m (f * s % m) (g * s % m)) = gp ∧ ((gp : Nat) : Int) ∈ gapsS m s t ∧ (∀ y ∈ gapsS m s t, y ≤ (gp : Int)) ∧ (∀ y ∈ gapsS m s (t + 1), y ≤ (gp : Int)) ∧ 0 < dd m (f * s % m) (t * s % m) ∧ dd m (f * s % m) (t * s % m) < gp := by
  have hm : 0 < m := by omega
  by_cases h2 : 2 ≤ t
  · obtain ⟨a, b, hab⟩ := exists_ab m s hm h2
    have htl := Nat.le_of_lt ht
    obtain ⟨f, g, hf, hg, hgn, b1, b2, b3, b4, b5, b6, b7⟩ := hab.more hm ht
    obtain ⟨n1, n2⟩ := hab.next hm htl hf
    rw [← hgn] at n1
    refine ⟨f, g, wd m s t a b f, hf, hg, fun met => nb_min' hm htl hf b3 (fun z hz _ => b1 z hz), fun met => nb_min hm htl hg b5 (fun z hz _ => b2 z hz), fun met => by rw [hab.ahead hm htl hf met, hgn], by rw [n1, if_neg (by omega)], (hab.gaps hm htl _).2 ⟨f, hf, rfl⟩, fun y hy => ?_, fun y hy => ?_, b3, b4⟩
    · obtain ⟨k, hk, rfl⟩ := (hab.gaps hm htl y).1 hy
      have := b7 k hk
      omega
    · obtain ⟨a', b', hab'⟩ := exists_ab m s hm (show 2 ≤ t + 1 by omega)
      obtain ⟨k, hk, rfl⟩ := (hab'.gaps hm ht y).1 hy
      obtain ⟨q1, q2⟩ := hab'.next hm ht hk
      by_cases hkt : k = t
      · subst hkt
        have := q2 g (by omega) (by omega)
        omega
      · obtain ⟨p1, p2⟩ := hab.next hm htl (show k < t by omega)
        obtain ⟨p3, p4⟩ := hab.nx_lt hm htl (show k < t by omega)
        have := q2 _ (by omega) p4
        have := b7 k (by omega)
        omega
  · have : t = 1 := by omega
    subst this
    have hgb := fun t' => gapsS_bound (m := m) (s := s) (t := t')
    have hr0 : (roundS m s 1)[0]? = some ((0 : Nat) : Int) := by
      obtain ⟨j, hj, e, -⟩ := mkR_mem (z := 0) hm (Nat.le_of_lt ht) (Nat.lt_succ_self 0)
      rw [show j = 0 by omega] at e; exact e
    have x0 : 0 * s % m = 0 := by simp
    have x1 := X_lt (s := s) hm 1
    have xt0 := X_ne (s := s) (i := 1) (j := 0) hm ht (by omega) (by omega)
    rw [x0] at xt0
    have d1 := dd_cases hm x1
    have d2 := dd_cases x1 hm
    have d3 := dd_cases hm hm
    have g0 := gapsS_get (s := s) hm (Nat.le_of_lt ht) (Nat.lt_succ_self 0)
    rw [if_neg (by omega), mkR_zero hm (Nat.le_of_lt ht) (Nat.le_refl _)] at g0
    refine ⟨0, 0, m, by omega, by omega, fun met => nb_min' hm (Nat.le_of_lt ht) (by omega) (by rw [x0]; omega) (fun z hz _ => by rw [show z = 0 by omega]; exact Nat.le_refl _), fun met => nb_min hm (Nat.le_of_lt ht) (by omega) (by rw [x0]; omega) (fun z hz _ => by rw [show z = 0 by omega]; exact Nat.le_refl _), fun met => nb_ahead (i := 0) hm (Nat.le_refl 1) (Nat.le_of_lt ht) (by omega) hr0 (by simpa using hr0) (by omega), by rw [x0, if_pos (by omega)], List.mem_of_getElem? (by rw [g0]; simp), fun y hy => (hgb 1 y hy).2, fun y hy => (hgb 2 y hy).2, by rw [x0]; omega, by rw [x0]; omega⟩
theorem dd_int {m a b : Nat} (_hm : 0 < m) (_hb : b < m) (ha : a < m) : ((b : Int) - (a : Nat) + m).tmod m = ((dd m a b : Nat) : Int) := by
  rw [show (b : Int) - (a : Nat) + m = ((b + m - a : Nat) : Int) by omega, Int.tmod_eq_emod_of_nonneg (by omega)]; rfl
theorem max_of : ∀ {l : List Int}, l ≠ [] → ∃ x, x ∈ l ∧ ∀ y ∈ l, y ≤ x
  | [], h => absurd rfl h
  | [x], _ => ⟨x, by simp, fun y hy => by simp at hy; omega⟩
  | x :: z :: l, _ => by
    obtain ⟨w, h1, h2⟩ := max_of (l := z :: l) (by simp)
    by_cases h : x ≤ w
    · exact ⟨w, by simp at h1 ⊢; exact .inr h1, fun y hy => by
        rcases List.mem_cons.1 hy with rfl | hy
        · exact h
        · exact h2 y hy⟩
    · exact ⟨x, by simp, fun y hy => by
        rcases List.mem_cons.1 hy with rfl | hy
        · exact Int.le_refl _
        · have := h2 y hy; omega⟩
theorem marks_x (m s t : Nat) (h1 : 1 ≤ m) (h2 : m ≤ 100) (h3 : s < m) (h4 : 1 ≤ t) (h5 : t ≤ 1000) (H : AH) (Q : AV → AH → Prop) (h : Q (.slice (some H.length) 0 t 0 1 false) (H ++ [.row ((markL m s t).map (.int .i64)) 0 t false])) : AC Try.prog 50 [WV m s t] H Q := by
  have hl := markL_len m s t
  refine AC.tidy (l := (markL m s t).map (.int .i64)) (by intro e; have := congrArg List.length e; simp [hl] at this; omega) (belB_ints _ _) (fun Q h => marks_ac m s t h1 h2 h3 h5 H Q h) Q ?_
  simpa [hl] using h
set_option maxHeartbeats 1600000 in
set_option maxRecDepth 100000 in
theorem wrapDivided_ac (a b c : Nat) (ha : a < 256) (hb : b < 256) (hc : c < 256) (H : AH) : AC Try.prog 9 [.agg [.int .u8 a, .int .u8 b, .int .u8 c]] H fun u _ => u = .bool true := by
  refine L_body 181 Try.func9 rfl rfl ?_
  obtain ⟨H1, e, hE, hl1, r1, l0, l1, l2, la⟩ := box3u H a b c
  refine L_reg [1] (fun K hK => ?_)
  simp [AV.isU, acells]
  apply hK; clear hK K
  rw [e]
  have hm := mM_ok a
  have hs := mS_ok a b
  have ht := mT_ok a b c
  refine L_reg [3] (fun K hK => ?_)
  simp [okFn_low, la]
  refine made_ac a b c ha hb hc _ _ ?_
  generalize mM a = m at *
  generalize mS a b = s at *
  generalize mT a b c = t at *
  simp [alloc_z zt23, newW, WV]
  apply hK; clear hK K
  obtain ⟨H2, e2, hE2, hl2, r2, bx⟩ := box3 H1 m s t
  rw [e2]
  generalize hp : H1.length = p at *
  have hm0 : 0 < m := by omega
  have hmne : m ≠ 0 := by omega
  have hpm := per_le m s
  have hck1 : checkE m s t = 0 := checkE_ok hm.1 hm.2 hs ht.1 ht.2
  refine L_reg [3, 4, 5, 6] (fun K hK => ?_)
  simp [okFn_low, bx.la]
  refine Divides_ac m s t _ _ ?_
  simp
  apply hK; clear hK K
  refine L_regQ mixed [3, 4, 5, 6, 32] (by kernel_rfl) (fun K hK => ?_)
  simp [okFn_low, bx.l0, bx.l1, bx.l2]
  refine exQ_mk (fun Q hQ => diff_ac m s hm.1 hm.2 hs _ Q hQ) ?_
  simp
  apply hK; clear hK K
  by_cases htp : t = per m s
  · have hd : dividesS m s t = (0, 0, 12) := by unfold dividesS; rw [if_pos hck1, if_pos (by simp only [Int.toNat_natCast]; omega)]
    refine L_true (by simp; omega) ?_
    refine L_reg [2] (fun K hK => ?_)
    simp [okFn_low, pickV, hd]
    refine works_ac _ _ ?_
    simp [pickV]
    apply hK; clear hK K
    exact L_ret ⟨.inr rfl, _, rfl, rfl⟩
  refine L_false (by simp; omega) ?_
  obtain ⟨f, g, gp, hf, hg, nf, ng, nfg, hgp, hmem, hmax, hmore, hin1, hin2⟩ := div_facts (s := s) hm.1 ht.1 (show t < per m s by omega)
  have hd : dividesS m s t = ((f : Int), (g : Int), 0) := by
    unfold dividesS
    rw [if_pos hck1, if_neg (by simp only [Int.toNat_natCast]; omega)]
    simp only [Int.toNat_natCast, nf, ng]
  have hn : nextS m s t f = ((g : Int), 0) := by
    unfold nextS
    have : turnE m s t f = 0 := by rw [turnE, if_pos hck1, if_pos (by omega)]
    rw [if_pos this]
    simp only [Int.toNat_natCast, nfg]
  clear nf ng nfg
  refine L_reg [3, 4, 5, 6, 7] (fun K hK => ?_)
  simp [okFn_low, bx.la, hd]
  refine marks_ac m s t hm.1 hm.2 hs (by omega) _ _ (fun v1 H3 hO1 hE3 => ?_)
  simp
  apply hK; clear hK K
  have bx3 := bx.ext hE3
  have r3 := hE3.row r2
  have hml := markL_len m s t
  have hmg := fun i => markL_get (m := m) (s := s) (t := t) (i := i)
  have hL1 := hO1.own.ls
  obtain ⟨r1', ver1, hv1⟩ := hO1.len
  rw [List.length_map, hml] at hv1
  subst hv1
  clear hO1
  generalize markL m s t = L at *
  refine L_reg [3, 4, 5, 7, 69] (fun K hK => ?_)
  simp [pickV, show ¬ ((f : Int) < 0) by omega, show ¬ ((g : Int) < 0) by omega, show ¬ ((t : Int) ≤ f) by omega, show ¬ ((t : Int) ≤ g) by omega]
  apply hK; clear hK K
  refine L_false (by simp) ?_
  refine L_reg [3, 4, 5, 7, 8, 9] (fun K hK => ?_)
  simp [okFn_low, bx3.la]
  refine Next_ac m s t f _ _ ?_
  simp [hn]
  apply hK; clear hK K
  refine L_reg [3, 4, 5, 7, 8, 9, 10, 11] (fun K hK => ?_)
  simp [okFn_low, bx3.la]
  refine Gaps_ac m s t _ _ (fun v2 H4 hO2 hE4 => ?_)
  rw [hck1]
  simp
  apply hK; clear hK K
  have G1 : gapsR m s t = gapsS m s t := by unfold gapsR; rw [if_pos hck1]; rfl
  have hck2 : checkE m s (t + 1 : Nat) = 0 := checkE_ok hm.1 hm.2 hs (by omega) (by omega)
  have G2 : gapsR m s (t + 1 : Nat) = gapsS m s (t + 1) := by unfold gapsR; rw [if_pos hck2]; rfl
  rw [G1] at hO2
  have hgl := gapsS_len (m := m) (s := s) hm0 ht.2
  have hgl2 := gapsS_len (m := m) (s := s) (t := t + 1) hm0 (by omega)
  have hlg := lgaps_ac m s t hm.1 hm.2 hs ht.1 ht.2
  have bx4 := bx3.ext hE4
  have hL1 := hL1.ext hE4
  obtain ⟨r2', ver2, hv2⟩ := hO2.len
  rw [List.length_map, hgl] at hv2
  have hL2 := hO2.own.ls
  clear hO2
  subst hv2
  refine L_reg [3, 4, 5, 7, 8, 9, 10, 11, 12] (fun K hK => ?_)
  simp [bx4.la, alloc_z zt23, newW]
  apply hK; clear hK K
  obtain ⟨H5, e5, hE5, hl5, r5, cx⟩ := box3 H4 m s t
  rw [e5]
  have bx5 := bx4.ext hE5
  have r35 := hE5.row (hE4.row r3)
  generalize hq : H4.length = q at *
  have hpq : p < q := by rw [← hq]; exact (List.getElem?_eq_some_iff.1 (hE4.row r3)).1
  refine L_reg [3, 4, 5, 7, 8, 9, 10, 11, 12] (fun K hK => ?_)
  simp [cx.l2, setT r5, wrap_i64 (a := (t : Int) + 1) (by omega)]
  apply hK; clear hK K
  have r6 := get_set (o' := AObj.row [.int .i64 m, .int .i64 s, .int .i64 ((t : Int) + 1)] 0 0 false) r5
  have cx6 := Bx.row r6
  have hE46 : Ext H4 (H5.set q (AObj.row [.int .i64 m, .int .i64 s, .int .i64 ((t : Int) + 1)] 0 0 false)) := ⟨by simp; have := hE5.1; omega, fun j hj => by rw [set_ne (by omega), hE5.2 j (by omega)]⟩
  generalize H5.set q (AObj.row [.int .i64 m, .int .i64 s, .int .i64 ((t : Int) + 1)] 0 0 false) = H6 at *
  have bx6 := bx4.ext hE46
  have hL1 := hL1.ext hE46
  have hL2 := hL2.ext hE46
  have e1 : ((t + 1 : Nat) : Int) = (t : Int) + 1 := by omega
  rw [e1] at hck2 G2
  refine L_reg [3, 4, 5, 7, 8, 9, 10, 11, 12, 13, 14] (fun K hK => ?_)
  simp [okFn_low, cx6.la]
  refine Gaps_ac m s ((t : Int) + 1) _ _ (fun v3 H7 hO3 hE7 => ?_)
  rw [hck2]
  simp
  apply hK; clear hK K
  rw [G2] at hO3
  have bx7 := bx6.ext hE7
  have cx7 := cx6.ext hE7
  have hL1 := hL1.ext hE7
  have hL2 := hL2.ext hE7
  have hL3 := hO3.own.ls
  obtain ⟨r3', ver3, hv3⟩ := hO3.len
  rw [List.length_map, hgl2] at hv3
  clear hO3
  subst hv3
  have ht0 : ((t : Int) == 0) = false := by simp; omega
  have ht1 : ((t : Int) + 1 == 0) = false := by simp; omega
  refine L_reg [3, 4, 5, 7, 10, 12, 13, 115] (fun K hK => ?_)
  simp [pickV, ht0, ht1]
  apply hK; clear hK K
  refine L_false (by simp) ?_
  have hmx := fun H Q => marks_x m s (t + 1) hm.1 hm.2 hs (by omega) (by omega) H Q
  rw [e1] at hmx
  unfold WV at hmx hlg
  obtain ⟨mx, hmx1, hmx2⟩ := max_of (l := gapsS m s (t + 1)) (by intro e; rw [e] at hgl2; simp at hgl2)
  have hmxle := hmore mx hmx1
  have hnew : ld (H7 ++ [AObj.row ((markL m s (t + 1)).map (.int .i64)) 0 (t + 1) false]) H7.length t 0 = some (.int .i64 (t * s % m : Nat)) := by
    rw [ld_row (show (H7 ++ [AObj.row ((markL m s (t + 1)).map (.int .i64)) 0 (t + 1) false])[H7.length]? = some (.row ((markL m s (t + 1)).map (.int .i64)) 0 (t + 1) false) by simp)]
    simp [markL]
  obtain ⟨q1, off1, vr1, sz1, full1, he1, hld1⟩ := id hL1
  rw [hml] at he1
  cases he1
  obtain ⟨q2, rfl, -, hrd7f⟩ := hld1 f (by omega)
  obtain ⟨q3, hq3, -, hrd7g⟩ := hld1 g (by omega)
  cases hq3
  rw [hmg] at hrd7f hrd7g
  simp only [Nat.zero_add] at hrd7f hrd7g
  have hf0 : (f : Int) < t := by omega
  have hg0 : (g : Int) < t := by omega
  have hxf := X_lt (s := s) hm0 f
  have hxg := X_lt (s := s) hm0 g
  have hxt := X_lt (s := s) hm0 t
  generalize f * s % m = xf at *
  generalize g * s % m = xg at *
  generalize t * s % m = xt at *
  have e7 : ((xg : Int) - (xf : Nat) + m).tmod m = ((dd m xf xg : Nat) : Int) := dd_int (by omega) hxg hxf
  have hgd := dd_cases hxf hxg
  refine L_regQ mixed [3, 4, 7, 10, 12, 13, 15] (by kernel_rfl) (fun K hK => ?_)
  simp [hf0, hg0, hrd7f, hrd7g, bx7.l0, hmne, wrap_i64 (a := (xg : Int) - (xf : Nat)) (by omega), wrap_i64 (a := (xg : Int) - (xf : Nat) + m) (by omega), e7]
  apply hK; clear hK K
  refine L_reg [3, 4, 7, 10, 12, 13, 15, 132] (fun K hK => ?_)
  simp
  apply hK; clear hK K
  by_cases hz : dd m xf xg = 0
  · refine L_true (by simp [hz]) ?_
    rw [if_pos hz] at hgp
    refine L_reg [3, 4, 7, 10, 12, 13, 15] (fun K hK => ?_)
    simp [bx7.l0]
    apply hK; clear hK K
    rw [hgp]

    have hmne' : (m : Int) ≠ 0 := by omega
    have e8 : ((xt : Int) - (xf : Nat) + m).tmod m = ((dd m xf xt : Nat) : Int) := dd_int (by omega) hxt hxf
    have hxd := dd_cases hxf hxt
    refine L_regU mixed [false, false, false, true, false, false, false, false, false, true, false, false, true, false, false, true] [3, 10, 13, 15, 16] (by kernel_rfl) (fun K hK => ?_)
    simp [okFn_low, cx7.la]
    refine exX_mk (fun Q hQ => hmx H7 Q hQ) (Ext.push _ _) ?_
    simp [bx7.l0, bx7.l2, hrd7f, hnew, hf0, show (t : Int) < (t : Int) + 1 by omega, hmne, wrap_i64 (a := (xt : Int) - (xf : Nat)) (by omega), wrap_i64 (a := (xt : Int) - (xf : Nat) + m) (by omega), e8]
    apply hK; clear hK K
    have hE8 := Ext.push H7 [AObj.row ((markL m s (t + 1)).map (.int .i64)) 0 (t + 1) false]
    have bx8 := bx7.ext hE8
    have hL2 := hL2.ext hE8
    have hL3 := hL3.ext hE8
    generalize H7 ++ [AObj.row ((markL m s (t + 1)).map (.int .i64)) 0 (t + 1) false] = H8 at *
    refine L_reg [2] (fun K hK => ?_)
    simp [okFn_low, pickV, hin1, hin2, bx8.la]
    refine hlg _ _ (fun v4 H9 hO4 hE9 => ?_)
    simp [okFn_low]
    refine Max_ac v4 _ gp H9 _ (by omega) hO4.own.ls hmem hmax ?_
    simp [okFn_low, pickV]
    refine Max_ac _ _ gp H9 _ (by omega) (hL2.ext hE9) hmem hmax ?_
    simp [okFn_low, pickV]
    refine Max_ac _ _ mx H9 _ (by omega) (hL3.ext hE9) hmx1 hmx2 ?_
    simp [okFn_low, pickV, hmxle]
    refine works_ac _ _ ?_
    simp [pickV]
    apply hK; clear hK K
    exact L_ret ⟨.inr rfl, _, rfl, rfl⟩
  · refine L_false (by simp [hz]) ?_
    rw [if_neg hz] at hgp
    rw [hgp]

    have hmne' : (m : Int) ≠ 0 := by omega
    have e8 : ((xt : Int) - (xf : Nat) + m).tmod m = ((dd m xf xt : Nat) : Int) := dd_int (by omega) hxt hxf
    have hxd := dd_cases hxf hxt
    refine L_regU mixed [false, false, false, true, false, false, false, false, false, true, false, false, true, false, false, true] [3, 10, 13, 15, 16] (by kernel_rfl) (fun K hK => ?_)
    simp [okFn_low, cx7.la]
    refine exX_mk (fun Q hQ => hmx H7 Q hQ) (Ext.push _ _) ?_
    simp [bx7.l0, bx7.l2, hrd7f, hnew, hf0, show (t : Int) < (t : Int) + 1 by omega, hmne, wrap_i64 (a := (xt : Int) - (xf : Nat)) (by omega), wrap_i64 (a := (xt : Int) - (xf : Nat) + m) (by omega), e8]
    apply hK; clear hK K
    have hE8 := Ext.push H7 [AObj.row ((markL m s (t + 1)).map (.int .i64)) 0 (t + 1) false]
    have bx8 := bx7.ext hE8
    have hL2 := hL2.ext hE8
    have hL3 := hL3.ext hE8
    generalize H7 ++ [AObj.row ((markL m s (t + 1)).map (.int .i64)) 0 (t + 1) false] = H8 at *
    refine L_reg [2] (fun K hK => ?_)
    simp [okFn_low, pickV, hin1, hin2, bx8.la]
    refine hlg _ _ (fun v4 H9 hO4 hE9 => ?_)
    simp [okFn_low]
    refine Max_ac v4 _ gp H9 _ (by omega) hO4.own.ls hmem hmax ?_
    simp [okFn_low, pickV]
    refine Max_ac _ _ gp H9 _ (by omega) (hL2.ext hE9) hmem hmax ?_
    simp [okFn_low, pickV]
    refine Max_ac _ _ mx H9 _ (by omega) (hL3.ext hE9) hmx1 hmx2 ?_
    simp [okFn_low, pickV, hmxle]
    refine works_ac _ _ ?_
    simp [pickV]
    apply hK; clear hK K
    exact L_ret ⟨.inr rfl, _, rfl, rfl⟩
theorem wrapDivided_int (n : List Int) (e : n.length = 3) (b : ∀ x ∈ n, IntKind.u8.min ≤ x ∧ x ≤ IntKind.u8.max) (H : AH) : AC Try.prog 9 [.agg (n.map (.int .u8))] H fun u _ => u = .bool true := by
  obtain ⟨x, y, z, rfl, hx, hy, hz⟩ := roll_int e b
  exact wrapDivided_ac x y z hx hy hz H
end Go.Proofs.Ytjfmiohgkcjdnaa
