/- Which turn follows which one around the circle. -/
import Derived.Test.YtjfmiohgkcjdnaaCe
import Derived.Test.YtjfmiohgkcjdnaaMa
namespace Go.Proofs.Ytjfmiohgkcjdnaa
open Go Go.Proofs.Ytjfmiohgkcjdnaa.AX

def goS (m : Nat) (to : Int) : Nat → Nat → Nat
  | 0, w => w
  | e + 1, w => goS m to e (stepS m to w)
theorem nbS_is {m s t y : Nat} {to : Int} (hm : 0 < m) (ht : t ≤ per m s) (hy : y < t) : ∀ (d n w met : Nat), d < n → goS m to (d + 1) w = y * s % m → (∀ e, e < d → ∀ z, z < t → goS m to (e + 1) w ≠ z * s % m) → nbS m s t to n w met = y
  | _, 0, _, _, h, _, _ => by omega
  | 0, n + 1, w, met, _, h, _ => by
    have h1 : stepS m to w = y * s % m := h
    simp only [nbS, h1, atS_mark hm ht hy]
  | d + 1, n + 1, w, met, h, h1, h2 => by
    have h3 : atS m s (stepS m to w) t 0 = none := (atS_none t 0).2 fun x _ hx e => h2 0 (by omega) x (by omega) e.symm
    simp only [nbS, h3]
    exact nbS_is hm ht hy d n _ _ (by omega) h1 (fun e he z hz => h2 (e + 1) (by omega) z hz)
theorem go_ahead {m : Nat} (hm : 0 < m) : ∀ e w, w < m → goS m 0 e w = (w + e) % m
  | 0, w, h => by rw [goS, Nat.add_zero, Nat.mod_eq_of_lt h]
  | e + 1, w, h => by
    rw [goS, stepS, if_neg (by decide), go_ahead hm e _ (Nat.mod_lt _ hm), Nat.mod_add_mod]
    congr 1; omega
theorem go_behind {m : Nat} (hm : 0 < m) : ∀ e w, w < m → e ≤ m → goS m 1 e w = (w + m - e) % m
  | 0, w, h, _ => by rw [goS, Nat.sub_zero, Nat.add_mod_right, Nat.mod_eq_of_lt h]
  | e + 1, w, h, he => by
    rw [goS, stepS, if_pos rfl, go_behind hm e _ (Nat.mod_lt _ hm) (by omega)]
    by_cases hw : w = 0
    · subst hw
      rw [Nat.zero_add, Nat.mod_eq_of_lt (show m - 1 < m by omega), show m - 1 + m - e = (m - (e + 1)) + m by omega, Nat.add_mod_right]
    · rw [show w + m - 1 = (w - 1) + m by omega, Nat.add_mod_right, Nat.mod_eq_of_lt (show w - 1 < m by omega)]
      congr 1; omega
/-- The mark of the turn at place i around the circle. -/
def mkR (m s t i : Nat) : Nat := markN m s ((roundS m s t).getD i 0)
theorem mkR_get {m s t i : Nat} (h : i < (roundS m s t).length) : mkR m s t i = markN m s ((roundS m s t)[i]) := by
  unfold mkR; rw [List.getD_eq_getElem?_getD, List.getElem?_eq_getElem h]; rfl
theorem mkR_lt {m s t i j : Nat} (hm : 0 < m) (ht : t ≤ per m s) (hij : i < j) (hj : j < t) : mkR m s t i < mkR m s t j := by
  have hl := roundS_len hm ht
  have h := round_sorted m s t
  rw [List.pairwise_map, List.pairwise_iff_getElem] at h
  rw [mkR_get (by omega), mkR_get (by omega)]
  exact h i j (by omega) (by omega) hij
theorem mkR_le {m s t i j : Nat} (hm : 0 < m) (ht : t ≤ per m s) (hij : i ≤ j) (hj : j < t) : mkR m s t i ≤ mkR m s t j := by
  rcases Nat.lt_or_eq_of_le hij with h | h
  · exact Nat.le_of_lt (mkR_lt hm ht h hj)
  · subst h; exact Nat.le_refl _
theorem mkR_max {m s t i : Nat} (hm : 0 < m) : mkR m s t i < m := Nat.mod_lt _ hm
theorem mkR_mem {m s t z : Nat} (hm : 0 < m) (ht : t ≤ per m s) (hz : z < t) : ∃ j, j < t ∧ (roundS m s t)[j]? = some (z : Int) ∧ mkR m s t j = z * s % m := by
  have hl := roundS_len hm ht
  obtain ⟨j, hj, e⟩ := List.mem_iff_getElem.1 ((mem_roundS hm ht).2 ⟨z, hz, rfl⟩)
  refine ⟨j, by omega, by rw [List.getElem?_eq_getElem hj, e], ?_⟩
  rw [mkR_get hj, e, markN, Int.toNat_natCast]
theorem mkR_some {m s t z j : Nat} (h : (roundS m s t)[j]? = some (z : Int)) : mkR m s t j = z * s % m := by
  obtain ⟨hj, e⟩ := List.getElem?_eq_some_iff.1 h
  rw [mkR_get hj, e, markN, Int.toNat_natCast]
theorem mod_wrap {m x : Nat} (h : m ≤ x) (h2 : x < m + m) : x % m = x - m := by
  rw [Nat.mod_eq_sub_mod h, Nat.mod_eq_of_lt (by omega)]
/-- What is met ahead is next around the circle; the turn itself may be one more. -/
theorem nb_ahead {m s t t2 i k y met : Nat} (hm : 0 < m) (ht : t ≤ t2) (ht2 : t2 ≤ per m s) (hi : i < t2) (hk : (roundS m s t2)[i]? = some (k : Int)) (hy : (roundS m s t2)[(i + 1) % t2]? = some (y : Int)) (hyt : y < t) : nbS m s t 0 m (k * s % m) met = y := by
  have ek := mkR_some hk
  have ey := mkR_some hy
  have hmk : k * s % m < m := Nat.mod_lt _ hm
  have hmem : ∀ z, z < t → ∃ j, j < t2 ∧ mkR m s t2 j = z * s % m := fun z hz => by
    obtain ⟨j, h1, -, h3⟩ := mkR_mem (z := z) hm ht2 (by omega); exact ⟨j, h1, h3⟩
  by_cases h : i + 1 < t2
  · rw [Nat.mod_eq_of_lt h] at ey
    have hlt := mkR_lt hm ht2 (Nat.lt_succ_self i) h
    have hmy := mkR_max (s := s) (t := t2) (i := i + 1) hm
    refine nbS_is hm (by omega) hyt (mkR m s t2 (i + 1) - mkR m s t2 i - 1) m _ _ (by omega) ?_ ?_
    · rw [go_ahead hm _ _ hmk, ← ek, ← ey, Nat.mod_eq_of_lt] <;> simp only [Nat.succ_eq_add_one] at * <;> omega
    · intro e he z hz hc
      obtain ⟨j, hj, ej⟩ := hmem z hz
      rw [go_ahead hm _ _ hmk, ← ek, ← ej, Nat.mod_eq_of_lt (by omega)] at hc
      by_cases hji : j ≤ i
      · have := mkR_le hm ht2 hji hi; omega
      · have := mkR_le hm ht2 (show i + 1 ≤ j by omega) hj; omega
  · have hi' : i + 1 = t2 := by omega
    rw [hi', Nat.mod_self] at ey
    have hle := mkR_le (s := s) hm ht2 (Nat.zero_le i) hi
    refine nbS_is hm (by omega) hyt (m - mkR m s t2 i + mkR m s t2 0 - 1) m _ _ (by omega) ?_ ?_
    · rw [go_ahead hm _ _ hmk, ← ek, ← ey]
      have h0 := mkR_max (s := s) (t := t2) (i := 0) hm
      have h1 := mkR_max (s := s) (t := t2) (i := i) hm
      rw [mod_wrap (by omega) (by omega)]; omega
    · intro e he z hz hc
      obtain ⟨j, hj, ej⟩ := hmem z hz
      rw [go_ahead hm _ _ hmk, ← ek, ← ej] at hc
      have h0 := mkR_le (s := s) hm ht2 (Nat.zero_le j) hj
      have h1 := mkR_le (s := s) hm ht2 (show j ≤ i by omega) hi
      have h2 := mkR_max (s := s) (t := t2) (i := i) hm
      by_cases hw : mkR m s t2 i + (e + 1) < m
      · rw [Nat.mod_eq_of_lt hw] at hc; omega
      · rw [mod_wrap (by omega) (by omega)] at hc; omega
theorem nb_behind {m s t t2 i k y met : Nat} (hm : 0 < m) (ht : t ≤ t2) (ht2 : t2 ≤ per m s) (hi : i < t2) (hk : (roundS m s t2)[i]? = some (k : Int)) (hy : (roundS m s t2)[(i + (t2 - 1)) % t2]? = some (y : Int)) (hyt : y < t) : nbS m s t 1 m (k * s % m) met = y := by
  have ek := mkR_some hk
  have ey := mkR_some hy
  have hmk : k * s % m < m := Nat.mod_lt _ hm
  have hmem : ∀ z, z < t → ∃ j, j < t2 ∧ mkR m s t2 j = z * s % m := fun z hz => by
    obtain ⟨j, h1, -, h3⟩ := mkR_mem (z := z) hm ht2 (by omega); exact ⟨j, h1, h3⟩
  by_cases h : 0 < i
  · rw [show i + (t2 - 1) = (i - 1) + t2 by omega, Nat.add_mod_right, Nat.mod_eq_of_lt (show i - 1 < t2 by omega)] at ey
    have hlt := mkR_lt (s := s) hm ht2 (show i - 1 < i by omega) hi
    have hmy := mkR_max (s := s) (t := t2) (i := i) hm
    refine nbS_is hm (by omega) hyt (mkR m s t2 i - mkR m s t2 (i - 1) - 1) m _ _ (by omega) ?_ ?_
    · rw [go_behind hm _ _ hmk (by omega), ← ek, ← ey, mod_wrap (by omega) (by omega)]; omega
    · intro e he z hz hc
      obtain ⟨j, hj, ej⟩ := hmem z hz
      rw [go_behind hm _ _ hmk (by omega), ← ek, ← ej, mod_wrap (by omega) (by omega)] at hc
      by_cases hji : i ≤ j
      · have := mkR_le (s := s) hm ht2 hji hj; omega
      · have := mkR_le (s := s) hm ht2 (show j ≤ i - 1 by omega) (by omega); omega
  · have hi' : i = 0 := by omega
    subst hi'
    rw [Nat.zero_add, Nat.mod_eq_of_lt (by omega)] at ey
    have hle := mkR_le (s := s) hm ht2 (Nat.zero_le (t2 - 1)) (by omega)
    have h1 := mkR_max (s := s) (t := t2) (i := t2 - 1) hm
    refine nbS_is hm (by omega) hyt (mkR m s t2 0 + m - mkR m s t2 (t2 - 1) - 1) m _ _ (by omega) ?_ ?_
    · rw [go_behind hm _ _ hmk (by omega), ← ek, ← ey, Nat.mod_eq_of_lt (by omega)]; omega
    · intro e he z hz hc
      obtain ⟨j, hj, ej⟩ := hmem z hz
      rw [go_behind hm _ _ hmk (by omega), ← ek, ← ej] at hc
      have h0 := mkR_le (s := s) hm ht2 (Nat.zero_le j) hj
      have h2 := mkR_le (s := s) hm ht2 (show j ≤ t2 - 1 by omega) (by omega)
      by_cases hw : mkR m s t2 0 + m - (e + 1) < m
      · rw [Nat.mod_eq_of_lt hw] at hc; omega
      · rw [mod_wrap (by omega) (by omega)] at hc; omega
end Go.Proofs.Ytjfmiohgkcjdnaa

/- What the package answers: which turn follows, gaps, even numbers of turns. -/
namespace Go.Proofs.Ytjfmiohgkcjdnaa
open Go Go.Proofs.Ytjfmiohgkcjdnaa.AX

def nextS (m s t k : Int) : Int × Int := if turnE m s t k = 0 then ((nbS m.toNat s.toNat t.toNat 0 m.toNat (k.toNat * s.toNat % m.toNat) k.toNat : Nat), 0) else (0, turnE m s t k)
theorem Next_ac0 (m s t k : Int) (H : AH) (Q : AV → AH → Prop) (h : ∀ H', Ext H H' → Q (.tuple [.int .i64 (nextS m s t k).1, .int .i64 (nextS m s t k).2]) H') : AC Try.prog 22 [WV m s t, .int .i64 k] H Q := by
  refine L_body 16 Try.func22 rfl rfl ?_
  refine L_reg [1, 2] (fun K hK => ?_)
  simp [AV.isU, acells, WV]
  apply hK; clear hK K
  obtain ⟨H1, e, hE, -, -, b⟩ := box3 H m s t
  rw [e]
  refine L_reg [1, 2, 6] (fun K hK => ?_)
  simp [okFn_low, b.la]
  refine checkTurn_ac m s t k _ _ ?_
  simp
  apply hK; clear hK K
  refine L_reg [1, 2, 6, 11] (fun K hK => ?_)
  simp
  apply hK; clear hK K
  by_cases h0 : turnE m s t k = 0
  · refine L_false (by simp [h0]) ?_
    obtain ⟨m, s, t, k, rfl, rfl, rfl, rfl, a1, a2, a3, a4, a5, a6⟩ := turnE_zero h0
    refine L_reg [4, 5] (fun K hK => ?_)
    simp [okFn_low, b.la]
    refine neigh_ac m s t k 0 a1 a2 a3 a4 a5 (by omega) _ _ ?_
    simp
    apply hK; clear hK K
    exact L_ret ⟨.inr rfl, _, rfl, by simpa [nextS, h0] using h _ hE⟩
  · refine L_true (by simp [h0]) ?_
    refine L_reg [4, 5] (fun K hK => ?_)
    simp
    apply hK; clear hK K
    exact L_ret ⟨.inr rfl, _, rfl, by simpa [nextS, h0] using h _ hE⟩
theorem Next_ac (m s t k : Int) (H : AH) (Q : AV → AH → Prop) (h : Q (.tuple [.int .i64 (nextS m s t k).1, .int .i64 (nextS m s t k).2]) H) : AC Try.prog 22 [WV m s t, .int .i64 k] H Q :=
  AC.quiet (by simp [belB]) (fun Q h => Next_ac0 m s t k H Q h) Q h
def beforeS (m s t k : Int) : Int × Int := if turnE m s t k = 0 then ((nbS m.toNat s.toNat t.toNat 1 m.toNat (k.toNat * s.toNat % m.toNat) k.toNat : Nat), 0) else (0, turnE m s t k)
theorem Before_ac0 (m s t k : Int) (H : AH) (Q : AV → AH → Prop) (h : ∀ H', Ext H H' → Q (.tuple [.int .i64 (beforeS m s t k).1, .int .i64 (beforeS m s t k).2]) H') : AC Try.prog 24 [WV m s t, .int .i64 k] H Q := by
  refine L_body 16 Try.func24 rfl rfl ?_
  refine L_reg [1, 2] (fun K hK => ?_)
  simp [AV.isU, acells, WV]
  apply hK; clear hK K
  obtain ⟨H1, e, hE, -, -, b⟩ := box3 H m s t
  rw [e]
  refine L_reg [1, 2, 6] (fun K hK => ?_)
  simp [okFn_low, b.la]
  refine checkTurn_ac m s t k _ _ ?_
  simp
  apply hK; clear hK K
  refine L_reg [1, 2, 6, 11] (fun K hK => ?_)
  simp
  apply hK; clear hK K
  by_cases h0 : turnE m s t k = 0
  · refine L_false (by simp [h0]) ?_
    obtain ⟨m, s, t, k, rfl, rfl, rfl, rfl, a1, a2, a3, a4, a5, a6⟩ := turnE_zero h0
    refine L_reg [4, 5] (fun K hK => ?_)
    simp [okFn_low, b.la]
    refine neigh_ac m s t k 1 a1 a2 a3 a4 a5 (by omega) _ _ ?_
    simp
    apply hK; clear hK K
    exact L_ret ⟨.inr rfl, _, rfl, by simpa [beforeS, h0] using h _ hE⟩
  · refine L_true (by simp [h0]) ?_
    refine L_reg [4, 5] (fun K hK => ?_)
    simp
    apply hK; clear hK K
    exact L_ret ⟨.inr rfl, _, rfl, by simpa [beforeS, h0] using h _ hE⟩
theorem Before_ac (m s t k : Int) (H : AH) (Q : AV → AH → Prop) (h : Q (.tuple [.int .i64 (beforeS m s t k).1, .int .i64 (beforeS m s t k).2]) H) : AC Try.prog 24 [WV m s t, .int .i64 k] H Q :=
  AC.quiet (by simp [belB]) (fun Q h => Before_ac0 m s t k H Q h) Q h
def dividesS (m s t : Int) : Int × Int × Int := if checkE m s t = 0 then (if t = (per m.toNat s.toNat : Nat) then (0, 0, 12) else ((nbS m.toNat s.toNat t.toNat 1 m.toNat (t.toNat * s.toNat % m.toNat) t.toNat : Nat), (nbS m.toNat s.toNat t.toNat 0 m.toNat (t.toNat * s.toNat % m.toNat) t.toNat : Nat), 0)) else (0, 0, checkE m s t)
theorem Divides_ac0 (m s t : Int) (H : AH) (Q : AV → AH → Prop) (h : ∀ H', Ext H H' → Q (.tuple [.int .i64 (dividesS m s t).1, .int .i64 (dividesS m s t).2.1, .int .i64 (dividesS m s t).2.2]) H') : AC Try.prog 26 [WV m s t] H Q := by
  refine L_body 24 Try.func26 rfl rfl ?_
  refine L_reg [1] (fun K hK => ?_)
  simp [AV.isU, acells, WV]
  apply hK; clear hK K
  obtain ⟨H1, e, hE, -, -, b⟩ := box3 H m s t
  rw [e]
  refine L_reg [1, 5] (fun K hK => ?_)
  simp [okFn_low, b.la]
  refine Check_ac m s t _ _ ?_
  simp
  apply hK; clear hK K
  refine L_reg [1, 5, 9] (fun K hK => ?_)
  simp
  apply hK; clear hK K
  by_cases h0 : checkE m s t = 0
  · refine L_false (by simp [h0]) ?_
    obtain ⟨m, s, t, rfl, rfl, rfl, a1, a2, a3, a4, a5⟩ := checkE_zero h0
    refine L_regQ mixed [1, 15] (by kernel_rfl) (fun K hK => ?_)
    simp [okFn_low, b.l2, b.la]
    refine exQ_mk (fun Q hQ => differ_ac m s t (by omega) (by omega) (by omega) H1 Q hQ) ?_
    simp
    apply hK; clear hK K
    by_cases h1 : (t : Int) = (per m s : Nat)
    · refine L_true (by simp; omega) ?_
      refine L_reg [2, 3, 4] (fun K hK => ?_)
      simp
      apply hK; clear hK K
      have hd : dividesS m s t = (0, 0, 12) := by unfold dividesS; rw [if_pos h0, if_pos (by simpa using h1)]
      exact L_ret ⟨.inr rfl, _, rfl, by have h2 := h _ hE; rw [hd] at h2; exact h2⟩
    · refine L_false (by simp; omega) ?_
      refine L_regQ mixed [2, 3, 4] (by kernel_rfl) (fun K hK => ?_)
      simp [okFn_low, b.l2, b.la]
      refine exQ_mk (fun Q hQ => neigh_ac m s t t 1 a1 a2 a3 a4 a5 (by omega) H1 Q hQ) ?_
      simp [okFn_low, b.l2, b.la]
      refine exQ_mk (fun Q hQ => neigh_ac m s t t 0 a1 a2 a3 a4 a5 (by omega) H1 Q hQ) ?_
      simp
      apply hK; clear hK K
      have hd : dividesS m s t = (((nbS m s t 1 m (t * s % m) t : Nat) : Int), ((nbS m s t 0 m (t * s % m) t : Nat) : Int), 0) := by unfold dividesS; rw [if_pos h0, if_neg (by simpa using h1)]; rfl
      exact L_ret ⟨.inr rfl, _, rfl, by have h2 := h _ hE; rw [hd] at h2; exact h2⟩
  · refine L_true (by simp [h0]) ?_
    refine L_reg [2, 3, 4] (fun K hK => ?_)
    simp
    apply hK; clear hK K
    exact L_ret ⟨.inr rfl, _, rfl, by simpa [dividesS, h0] using h _ hE⟩
theorem Divides_ac (m s t : Int) (H : AH) (Q : AV → AH → Prop) (h : Q (.tuple [.int .i64 (dividesS m s t).1, .int .i64 (dividesS m s t).2.1, .int .i64 (dividesS m s t).2.2]) H) : AC Try.prog 26 [WV m s t] H Q :=
  AC.quiet (by simp [belB]) (fun Q h => Divides_ac0 m s t H Q h) Q h
def roundR (m s t : Int) : List Int := if checkE m s t = 0 then roundS m.toNat s.toNat t.toNat else []
theorem Round_ac (m s t : Int) (H : AH) (Q : AV → AH → Prop) (h : ∀ v H', OwnF H.length H' v ((roundR m s t).map (.int .i64)) → Ext H H' → Q (.tuple [v, .int .i64 (checkE m s t)]) H') : AC Try.prog 29 [WV m s t] H Q := by
  refine L_body 12 Try.func29 rfl rfl ?_
  refine L_reg [1] (fun K hK => ?_)
  simp [AV.isU, acells, WV]
  apply hK; clear hK K
  obtain ⟨H1, e, hE, -, -, b⟩ := box3 H m s t
  rw [e]
  refine L_reg [1, 4] (fun K hK => ?_)
  simp [okFn_low, b.la]
  refine Check_ac m s t _ _ ?_
  simp
  apply hK; clear hK K
  refine L_reg [1, 4, 8] (fun K hK => ?_)
  simp
  apply hK; clear hK K
  unfold roundR at h
  by_cases h0 : checkE m s t = 0
  · refine L_false (by simp [h0]) ?_
    rw [if_pos h0, h0] at h
    obtain ⟨m, s, t, rfl, rfl, rfl, a1, a2, a3, a4, a5⟩ := checkE_zero h0
    simp only [Int.toNat_natCast] at h
    refine L_reg [2, 3] (fun K hK => ?_)
    simp [okFn_low, b.la]
    refine roundOk m s t a1 a2 a3 a5 _ _ (fun v H2 hO hE2 => ?_)
    simp
    apply hK; clear hK K
    exact L_ret ⟨.inr rfl, _, rfl, h v H2 (hO.mono hE.1) (hE.trans hE2)⟩
  · refine L_true (by simp [h0]) ?_
    rw [if_neg h0] at h
    refine L_reg [2, 3] (fun K hK => ?_)
    simp
    apply hK; clear hK K
    exact L_ret ⟨.inr rfl, _, rfl, h _ _ (.nil _ _) hE⟩
def gapsR (m s t : Int) : List Int := if checkE m s t = 0 then gapsS m.toNat s.toNat t.toNat else []
theorem Gaps_ac (m s t : Int) (H : AH) (Q : AV → AH → Prop) (h : ∀ v H', OwnF H.length H' v ((gapsR m s t).map (.int .i64)) → Ext H H' → Q (.tuple [v, .int .i64 (checkE m s t)]) H') : AC Try.prog 31 [WV m s t] H Q := by
  refine L_body 12 Try.func31 rfl rfl ?_
  refine L_reg [1] (fun K hK => ?_)
  simp [AV.isU, acells, WV]
  apply hK; clear hK K
  obtain ⟨H1, e, hE, -, -, b⟩ := box3 H m s t
  rw [e]
  refine L_reg [1, 4] (fun K hK => ?_)
  simp [okFn_low, b.la]
  refine Check_ac m s t _ _ ?_
  simp
  apply hK; clear hK K
  refine L_reg [1, 4, 8] (fun K hK => ?_)
  simp
  apply hK; clear hK K
  unfold gapsR at h
  by_cases h0 : checkE m s t = 0
  · refine L_false (by simp [h0]) ?_
    rw [if_pos h0, h0] at h
    obtain ⟨m, s, t, rfl, rfl, rfl, a1, a2, a3, a4, a5⟩ := checkE_zero h0
    simp only [Int.toNat_natCast] at h
    refine L_reg [2, 3] (fun K hK => ?_)
    simp [okFn_low, b.la]
    refine gaps_ac m s t a1 a2 a3 a5 _ _ (fun v H2 hO hE2 => ?_)
    simp
    apply hK; clear hK K
    exact L_ret ⟨.inr rfl, _, rfl, h v H2 (hO.mono hE.1) (hE.trans hE2)⟩
  · refine L_true (by simp [h0]) ?_
    rw [if_neg h0] at h
    refine L_reg [2, 3] (fun K hK => ?_)
    simp
    apply hK; clear hK K
    exact L_ret ⟨.inr rfl, _, rfl, h _ _ (.nil _ _) hE⟩
def widthsR (m s t : Int) : List (Nat × Nat) := if checkE m s t = 0 then widthsS m.toNat s.toNat t.toNat else []
theorem Widths_ac (m s t : Int) (H : AH) (Q : AV → AH → Prop) (h : ∀ v H', OwnK 2 H.length H' v (prs (widthsR m s t)) → Ext H H' → Q (.tuple [v, .int .i64 (checkE m s t)]) H') : AC Try.prog 33 [WV m s t] H Q := by
  refine L_body 12 Try.func33 rfl rfl ?_
  refine L_reg [1] (fun K hK => ?_)
  simp [AV.isU, acells, WV]
  apply hK; clear hK K
  obtain ⟨H1, e, hE, -, -, b⟩ := box3 H m s t
  rw [e]
  refine L_reg [1, 4] (fun K hK => ?_)
  simp [okFn_low, b.la]
  refine Check_ac m s t _ _ ?_
  simp
  apply hK; clear hK K
  refine L_reg [1, 4, 8] (fun K hK => ?_)
  simp
  apply hK; clear hK K
  unfold widthsR at h
  by_cases h0 : checkE m s t = 0
  · refine L_false (by simp [h0]) ?_
    rw [if_pos h0, h0] at h
    obtain ⟨m, s, t, rfl, rfl, rfl, a1, a2, a3, a4, a5⟩ := checkE_zero h0
    simp only [Int.toNat_natCast] at h
    refine L_reg [2, 3] (fun K hK => ?_)
    simp [okFn_low, b.la]
    refine widths_ac m s t a1 a2 a3 a5 _ _ (fun v H2 hO hE2 => ?_)
    simp
    apply hK; clear hK K
    exact L_ret ⟨.inr rfl, _, rfl, h v H2 (⟨hO.1, hO.2.imp id fun ⟨r, ver, st, g1, g2⟩ => ⟨r, ver, st, Nat.le_trans hE.1 g1, g2⟩⟩) (hE.trans hE2)⟩
  · refine L_true (by simp [h0]) ?_
    rw [if_neg h0] at h
    refine L_reg [2, 3] (fun K hK => ?_)
    simp
    apply hK; clear hK K
    exact L_ret ⟨.inr rfl, _, rfl, h _ _ (OwnK.nil _ _ _) hE⟩
def evS (m s : Nat) (k : Nat) : List Int := ((List.range k).filter fun t => decide ((widthsS m s (t + 1)).length ≤ 2)).map fun (t : Nat) => ((t : Int) + 1)
theorem evS_succ (m s k : Nat) : evS m s (k + 1) = if (widthsS m s (k + 1)).length ≤ 2 then evS m s k ++ [(k : Int) + 1] else evS m s k := by
  unfold evS
  rw [List.range_succ, List.filter_append, List.map_append]
  by_cases h : (widthsS m s (k + 1)).length ≤ 2
  · rw [if_pos h]; simp [h]
  · rw [if_neg h]; simp [h]
theorem evS_len (m s k : Nat) : (evS m s k).length ≤ k := by
  unfold evS
  rw [List.length_map]
  have := List.length_filter_le (fun t => decide ((widthsS m s (t + 1)).length ≤ 2)) (List.range k)
  simpa using this
def evensR (m s : Int) : List Int := if circleE m s = 0 then evS m.toNat s.toNat (per m.toNat s.toNat) else []
set_option maxRecDepth 100000 in
theorem Evens_ac (m s : Int) (H : AH) (Q : AV → AH → Prop) (h : ∀ v H', OwnF H.length H' v ((evensR m s).map (.int .i64)) → Ext H H' → Q (.tuple [v, .int .i64 (circleE m s)]) H') : AC Try.prog 37 [.int .i64 m, .int .i64 s] H Q := by
  refine L_body 35 Try.func37 rfl rfl ?_
  refine L_reg [0, 1] (fun K hK => ?_)
  simp
  apply hK; clear hK K
  unfold evensR at h
  by_cases h0 : circleE m s = 0
  · simp only [h0, if_true] at h
    have hv : wholeV m s = WV m s (per m.toNat s.toNat : Nat) := by rw [wholeV, if_pos h0]
    refine L_reg [0, 1, 6, 7] (fun K hK => ?_)
    simp [okFn_low]
    refine whole_ac m s _ _ ?_
    simp [alloc_z zt23, hv, h0, WV, newW]
    apply hK; clear hK K
    obtain ⟨m, s, rfl, rfl, a1, a2, a3⟩ := circleE_zero h0
    obtain ⟨H1, e, hE, hl1, r1, b⟩ := box3 H m s (per m s : Nat)
    simp only [Int.toNat_natCast] at h ⊢
    rw [e]
    generalize hp : H.length = p at *
    refine L_reg [0, 1, 6, 7, 17] (fun K hK => ?_)
    simp
    apply hK; clear hK K
    refine L_false (by simp) ?_
    refine L_reg [0, 1, 6, 8] (fun K hK => ?_)
    simp
    apply hK; clear hK K
    refine L_reg [0, 1, 6, 8, 9] (fun K hK => ?_)
    simp
    apply hK; clear hK K
    have hpm := per_le m s
    refine L_block (L_loopV [8, 9] (fun n vs H' => ∃ (k : Nat) (v : AV), n = per m s - k ∧ k ≤ per m s ∧ vs = [v, .int .i64 ((k : Int) + 1)] ∧ OwnF H1.length H' v ((evS m s k).map (.int .i64)) ∧ Ext H1 H') _ [.slice none 0 0 0 1 false, .int .i64 1] rfl ⟨0, _, rfl, by omega, rfl, .nil _ _, .refl _⟩ ?_)
    rintro n _ H2 ⟨k, v, rfl, hk, rfl, hO, hE2⟩
    have b2 := b.ext hE2
    refine L_reg [0, 1, 6, 8, 9, 22] (fun K hK => ?_)
    simp [b2.l2]
    apply hK; clear hK K
    have hle := evS_len m s k
    refine L_dec ((k : Int) + 1 ≤ per m s) (by simp) (fun hlt => ?_) (fun hge => L_exit ?_)
    · refine L_block ?_
      have hsucc := evS_succ m s k
      have hdd := even_ac m s (k + 1) a1 a2 a3 (by omega) H2
      have hk1 : ((k + 1 : Nat) : Int) = (k : Int) + 1 := by omega
      rw [hk1] at hdd
      unfold WV at hdd
      refine L_reg [0, 1, 6, 8, 9, 29] (fun K hK => ?_)
      simp [okFn_low]
      refine hdd _ ?_
      simp
      apply hK; clear hK K
      refine L_dec ((widthsS m s (k + 1)).length ≤ 2) (by simp) (fun hd => ?_) (fun hd => ?_)
      · rw [if_pos hd] at hsucc
        obtain ⟨v', H3, happ, hO3, hE3⟩ := ownF_append hE2 el36 el36 (x := .int .i64 ((k : Int) + 1)) (m := 1) hO rfl (by simp; omega)
        refine L_reg [0, 1, 6, 8, 9] (fun K hK => ?_)
        simp [happ]
        apply hK; clear hK K
        refine L_reg [0, 1, 6, 8, 9] (fun K hK => ?_)
        simp [wrap_i64 (a := (k : Int) + 1 + 1) (by omega)]
        apply hK; clear hK K
        refine ⟨per m s - (k + 1), [v', .int .i64 ((k : Int) + 1 + 1)], by omega, by simp, k + 1, v', rfl, by omega, by simp, by rw [hsucc]; simpa using hO3, hE3⟩
      · rw [if_neg hd] at hsucc
        refine L_reg [0, 1, 6, 8, 9] (fun K hK => ?_)
        simp [wrap_i64 (a := (k : Int) + 1 + 1) (by omega)]
        apply hK; clear hK K
        refine ⟨per m s - (k + 1), [v, .int .i64 ((k : Int) + 1 + 1)], by omega, by simp, k + 1, v, rfl, by omega, by simp, by rw [hsucc]; exact hO, hE2⟩
    · have hk' : k = per m s := by omega
      refine L_reg [4, 5] (fun K hK => ?_)
      simp
      apply hK; clear hK K
      exact L_ret ⟨.inr rfl, _, rfl, h v H2 (by rw [← hk']; exact hO.mono (by omega)) (hE.trans hE2)⟩
  · simp only [if_neg h0] at h
    have hv : wholeV m s = WV 0 0 0 := by rw [wholeV, if_neg h0]
    refine L_reg [0, 1, 6, 7] (fun K hK => ?_)
    simp [okFn_low]
    refine whole_ac m s _ _ ?_
    simp [alloc_z zt23, hv, WV, newW]
    apply hK; clear hK K
    refine L_reg [0, 1, 6, 7, 17] (fun K hK => ?_)
    simp
    apply hK; clear hK K
    refine L_true (by simp [h0]) ?_
    refine L_reg [4, 5] (fun K hK => ?_)
    simp
    apply hK; clear hK K
    exact L_ret ⟨.inr rfl, _, rfl, h _ _ (.nil _ _) (.push _ _)⟩
end Go.Proofs.Ytjfmiohgkcjdnaa

/- The reference: wrappers are checked; turns and marks; turns around the circle, gaps, widths. -/
namespace Go.Proofs.Ytjfmiohgkcjdnaa
open Go Go.Proofs.Ytjfmiohgkcjdnaa.AX

theorem rin_ac (n lo hi : Int) (H : AH) (Q : AV → AH → Prop) (h : Q (.bool (decide (lo ≤ n ∧ n ≤ hi))) H) : AC Try.prog 61 [.int .i64 n, .int .i64 lo, .int .i64 hi] H Q := by
  refine L_body 15 Try.func61 rfl rfl ?_
  refine L_reg [0, 1, 2] (fun K hK => ?_)
  simp
  apply hK; clear hK K
  by_cases h1 : lo ≤ n
  · refine L_reg [6] (fun K hK => ?_)
    simp [pickV, h1]
    apply hK; clear hK K
    exact L_ret ⟨.inr rfl, _, rfl, by simpa [h1] using h⟩
  · refine L_reg [6] (fun K hK => ?_)
    simp [pickV, h1]
    apply hK; clear hK K
    exact L_ret ⟨.inr rfl, _, rfl, by simpa [h1] using h⟩
theorem rmark_ac0 (m s k : Nat) (t : Int) (hm : 0 < m) (hk : k * s ≤ 1000000) (H : AH) (Q : AV → AH → Prop) (h : ∀ H', Ext H H' → Q (.int .i64 (k * s % m : Nat)) H') : AC Try.prog 62 [WV m s t, .int .i64 k] H Q := by
  refine L_body 12 Try.func62 rfl rfl ?_
  refine L_reg [1, 2] (fun K hK => ?_)
  simp [AV.isU, acells, WV]
  apply hK; clear hK K
  obtain ⟨H1, e, hE, -, -, b⟩ := box3 H m s t
  rw [e]
  have hne : m ≠ 0 := by omega
  have hw : IntKind.i64.wrap ((k : Int) * s) = ((k * s : Nat) : Int) := by rw [wrap_i64] <;> push_cast <;> omega
  refine L_reg [4] (fun K hK => ?_)
  simp [b.l0, b.l1, hne, hw]
  apply hK; clear hK K
  have e2 : ((k : Int) * s).tmod m = ((k * s % m : Nat) : Int) := by rw [Int.tmod_eq_emod_of_nonneg (by omega)]; rfl
  have h2 := h _ hE
  rw [← e2] at h2
  exact L_ret ⟨.inr rfl, _, rfl, h2⟩
theorem rmark_ac (m s k : Nat) (t : Int) (hm : 0 < m) (hk : k * s ≤ 1000000) (H : AH) (Q : AV → AH → Prop) (h : Q (.int .i64 (k * s % m : Nat)) H) : AC Try.prog 62 [WV m s t, .int .i64 k] H Q :=
  AC.quiet (belB_int _ _ _ _) (fun Q h => rmark_ac0 m s k t hm hk H Q h) Q h
theorem rdiff_ac0 (m s : Nat) (t : Int) (h1 : 1 ≤ m) (h2 : m ≤ 100) (h3 : s < m) (H : AH) (Q : AV → AH → Prop) (h : ∀ H', Ext H H' → Q (.int .i64 (per m s : Nat)) H') : AC Try.prog 68 [WV m s t] H Q := by
  refine L_body 11 Try.func68 rfl rfl ?_
  refine L_reg [1] (fun K hK => ?_)
  simp [AV.isU, acells, WV]
  apply hK; clear hK K
  obtain ⟨H1, e, hE, -, -, b⟩ := box3 H m s t
  rw [e]
  refine L_reg [1, 3] (fun K hK => ?_)
  simp
  apply hK; clear hK K
  have hpm := per_le m s
  have hpp := per_pos (m := m) (s := s) (by omega)
  refine L_block (L_loopV [3] (fun n vs H' => ∃ k : Nat, n = per m s - k ∧ 1 ≤ k ∧ k ≤ per m s ∧ vs = [.int .i64 k] ∧ H1 = H') _ [.int .i64 1] rfl ⟨1, rfl, by omega, by omega, rfl, rfl⟩ ?_)
  rintro n _ _ ⟨k, rfl, hk1, hk, rfl, rfl⟩
  have hks : k * s ≤ 10000 := by
    calc k * s ≤ 100 * 100 := Nat.mul_le_mul (by omega) (by omega)
      _ ≤ 10000 := by decide
  have hpd := per_dvd (s := s) (k := k) (show 0 < m by omega)
  generalize hmk : k * s % m = mk at hpd
  refine L_reg [1, 3, 7] (fun K hK => ?_)
  simp [okFn_low, b.la]
  refine rmark_ac m s k t (by omega) (by omega) _ _ ?_
  simp [hmk]
  apply hK; clear hK K
  by_cases hkp : k = per m s
  · have h0 : mk = 0 := hpd.2 (by rw [hkp]; exact Nat.dvd_refl _)
    refine L_false (by simp [h0]) (L_exit ?_)
    refine L_reg [2] (fun K hK => ?_)
    simp
    apply hK; clear hK K
    exact L_ret ⟨.inr rfl, _, rfl, by rw [hkp]; exact h _ hE⟩
  · have h0 : mk ≠ 0 := fun h0 => by have := Nat.le_of_dvd (by omega) (hpd.1 h0); omega
    refine L_true (by simp [h0]) ?_
    refine L_block ?_
    refine L_reg [1, 3] (fun K hK => ?_)
    simp [wrap_i64 (a := (k : Int) + 1) (by omega)]
    apply hK; clear hK K
    exact ⟨per m s - (k + 1), [.int .i64 ((k + 1 : Nat) : Int)], by omega, by simp, k + 1, rfl, by omega, by omega, rfl, rfl⟩
theorem rdiff_ac (m s : Nat) (t : Int) (h1 : 1 ≤ m) (h2 : m ≤ 100) (h3 : s < m) (H : AH) (Q : AV → AH → Prop) (h : Q (.int .i64 (per m s : Nat)) H) : AC Try.prog 68 [WV m s t] H Q :=
  AC.quiet (belB_int _ _ _ _) (fun Q h => rdiff_ac0 m s t h1 h2 h3 H Q h) Q h
theorem rcircle_ac (m s : Int) (H : AH) (Q : AV → AH → Prop) (h : Q (.int .i64 (circleE m s)) H) : AC Try.prog 67 [.int .i64 m, .int .i64 s] H Q := by
  refine L_body 15 Try.func67 rfl rfl ?_
  refine L_reg [0, 1] (fun K hK => ?_)
  simp
  apply hK; clear hK K
  by_cases h1 : 1 ≤ m ∧ m ≤ 100
  · refine L_reg [14] (fun K hK => ?_)
    simp [okFn_low]
    refine rin_ac _ _ _ _ _ ?_
    simp [okFn_low, h1, wrap_i64 (a := m - 1) (by omega)]
    refine rin_ac _ _ _ _ _ ?_
    simp [pickV]
    apply hK; clear hK K
    by_cases h2 : 0 ≤ s ∧ s ≤ m - 1
    · refine L_false (by simp [h2]) ?_
      refine L_reg [4] (fun K hK => ?_)
      simp
      apply hK; clear hK K
      exact L_ret ⟨.inr rfl, _, rfl, by rw [circleE, if_neg (by omega)] at h; exact h⟩
    · refine L_true (by simp; omega) ?_
      refine L_reg [4] (fun K hK => ?_)
      simp
      apply hK; clear hK K
      exact L_ret ⟨.inr rfl, _, rfl, by rw [circleE, if_pos (by omega)] at h; exact h⟩
  · refine L_reg [14] (fun K hK => ?_)
    simp [okFn_low]
    refine rin_ac _ _ _ _ _ ?_
    simp [pickV, h1]
    apply hK; clear hK K
    refine L_true (by simp) ?_
    refine L_reg [4] (fun K hK => ?_)
    simp
    apply hK; clear hK K
    exact L_ret ⟨.inr rfl, _, rfl, by rw [circleE, if_pos (by omega)] at h; exact h⟩
def atI (m s w t : Nat) : Int := match atS m s w t 0 with | some k => k | none => -1
theorem rat_ac0 (m s t w : Nat) (h1 : 1 ≤ m) (h2 : m ≤ 100) (h3 : s < m) (h5 : t ≤ per m s) (H : AH) (Q : AV → AH → Prop) (h : ∀ H', Ext H H' → Q (.int .i64 (atI m s w t)) H') : AC Try.prog 65 [WV m s t, .int .i64 w] H Q := by
  refine L_body 18 Try.func65 rfl rfl ?_
  refine L_reg [1, 2] (fun K hK => ?_)
  simp [AV.isU, acells, WV]
  apply hK; clear hK K
  obtain ⟨H1, e, hE, -, -, b⟩ := box3 H m s t
  rw [e]
  refine L_reg [1, 2, 5] (fun K hK => ?_)
  simp
  apply hK; clear hK K
  have hpm := per_le m s
  unfold atI at h
  refine L_block (L_loopV [5] (fun n vs H' => ∃ k : Nat, n = t - k ∧ k ≤ t ∧ atS m s w (t - k) k = atS m s w t 0 ∧ vs = [.int .i64 k] ∧ H1 = H') _ [.int .i64 0] rfl ⟨0, rfl, by omega, rfl, rfl, rfl⟩ ?_)
  rintro n _ _ ⟨k, rfl, hk, ha, rfl, rfl⟩
  refine L_reg [1, 2, 5, 9] (fun K hK => ?_)
  simp [b.l2]
  apply hK; clear hK K
  refine L_dec (k < t) (by simp) (fun hlt => ?_) (fun hge => L_exit ?_)
  · refine L_block ?_
    have hks := bound (k := k) h2 h3 h5 (by omega)
    rw [show t - k = (t - (k + 1)) + 1 by omega, atS] at ha
    generalize hmk : k * s % m = mk at ha
    refine L_reg [1, 2, 5, 16] (fun K hK => ?_)
    simp [okFn_low, b.la]
    refine rmark_ac m s k t (by omega) (by omega) _ _ ?_
    simp [hmk]
    apply hK; clear hK K
    by_cases he : mk = w
    · refine L_true (by simp [he]) ?_
      rw [if_pos he] at ha
      refine L_reg [4] (fun K hK => ?_)
      simp
      apply hK; clear hK K
      exact L_ret ⟨.inr rfl, _, rfl, by rw [← ha] at h; exact h _ hE⟩
    · refine L_false (by simp; omega) ?_
      rw [if_neg he] at ha
      refine L_reg [1, 2, 5] (fun K hK => ?_)
      simp [wrap_i64 (a := (k : Int) + 1) (by omega)]
      apply hK; clear hK K
      exact ⟨t - (k + 1), [.int .i64 ((k + 1 : Nat) : Int)], by omega, by simp, k + 1, rfl, by omega, ha, rfl, rfl⟩
  · rw [show t - k = 0 by omega, atS] at ha
    refine L_reg [4] (fun K hK => ?_)
    simp
    apply hK; clear hK K
    exact L_ret ⟨.inr rfl, _, rfl, by rw [← ha] at h; exact h _ hE⟩
theorem rat_ac (m s t w : Nat) (h1 : 1 ≤ m) (h2 : m ≤ 100) (h3 : s < m) (h5 : t ≤ per m s) (H : AH) (Q : AV → AH → Prop) (h : Q (.int .i64 (atI m s w t)) H) : AC Try.prog 65 [WV m s t, .int .i64 w] H Q :=
  AC.quiet (belB_int _ _ _ _) (fun Q h => rat_ac0 m s t w h1 h2 h3 h5 H Q h) Q h
def rndP (m s t w : Nat) : List Int := ((List.range w).filterMap fun w => atS m s w t 0).map fun (x : Nat) => (x : Int)
theorem rndP_succ (m s t w : Nat) : rndP m s t (w + 1) = match atS m s w t 0 with | some k => rndP m s t w ++ [(k : Int)] | none => rndP m s t w := by
  unfold rndP
  rw [List.range_succ, List.filterMap_append, List.map_append]
  cases h : atS m s w t 0 with
  | none => simp [h]
  | some k => simp [h]
theorem rndP_len (m s t w : Nat) : (rndP m s t w).length ≤ w := by
  unfold rndP
  rw [List.length_map]
  have := List.length_filterMap_le (fun w => atS m s w t 0) (List.range w)
  simpa using this
theorem rround_ac (m s t : Nat) (h1 : 1 ≤ m) (h2 : m ≤ 100) (h3 : s < m) (h5 : t ≤ per m s) (H : AH) (Q : AV → AH → Prop) (h : ∀ v H', OwnF H.length H' v ((roundS m s t).map (.int .i64)) → Ext H H' → Q v H') : AC Try.prog 72 [WV m s t] H Q := by
  refine L_body 22 Try.func72 rfl rfl ?_
  refine L_reg [1] (fun K hK => ?_)
  simp [AV.isU, acells, WV]
  apply hK; clear hK K
  obtain ⟨H1, e, hE, -, -, b⟩ := box3 H m s t
  rw [e]
  refine L_reg [1, 3] (fun K hK => ?_)
  simp
  apply hK; clear hK K
  refine L_reg [1, 3, 4] (fun K hK => ?_)
  simp
  apply hK; clear hK K
  refine L_block (L_loopV [3, 4] (fun n vs H' => ∃ (w : Nat) (v : AV), n = m - w ∧ w ≤ m ∧ vs = [v, .int .i64 w] ∧ OwnF H1.length H' v ((rndP m s t w).map (.int .i64)) ∧ Ext H1 H') _ [.slice none 0 0 0 1 false, .int .i64 0] rfl ⟨0, _, rfl, by omega, rfl, .nil _ _, .refl _⟩ ?_)
  rintro n _ H2 ⟨w, v, rfl, hw, rfl, hO, hE2⟩
  have b2 := b.ext hE2
  refine L_reg [1, 3, 4, 8] (fun K hK => ?_)
  simp [b2.l0]
  apply hK; clear hK K
  refine L_dec (w < m) (by simp) (fun hlt => ?_) (fun hge => L_exit ?_)
  · refine L_block ?_
    have hsucc := rndP_succ m s t w
    have hle := rndP_len m s t w
    have hat := rat_ac m s t w h1 h2 h3 h5
    unfold atI at hat
    cases ha : atS m s w t 0 with
    | none =>
      rw [ha] at hsucc hat
      refine L_reg [1, 3, 4, 14] (fun K hK => ?_)
      simp [okFn_low, b2.la]
      refine hat _ _ ?_
      simp
      apply hK; clear hK K
      refine L_false (by simp) ?_
      refine L_reg [1, 3, 4] (fun K hK => ?_)
      simp [wrap_i64 (a := (w : Int) + 1) (by omega)]
      apply hK; clear hK K
      exact ⟨m - (w + 1), [v, .int .i64 ((w + 1 : Nat) : Int)], by omega, by simp, w + 1, v, rfl, by omega, rfl, by rw [hsucc]; exact hO, hE2⟩
    | some k =>
      rw [ha] at hsucc hat
      refine L_reg [1, 3, 4, 14] (fun K hK => ?_)
      simp [okFn_low, b2.la]
      refine hat _ _ ?_
      simp
      apply hK; clear hK K
      refine L_true (by simp) ?_
      obtain ⟨v', H3, happ, hO3, hE3⟩ := ownF_append hE2 el36 el36 (x := .int .i64 (k : Int)) (m := 1) hO rfl (by simp; omega)
      refine L_reg [1, 3, 4] (fun K hK => ?_)
      simp [okFn_low, b2.la]
      refine hat _ _ ?_
      simp [happ]
      apply hK; clear hK K
      refine L_reg [1, 3, 4] (fun K hK => ?_)
      simp [wrap_i64 (a := (w : Int) + 1) (by omega)]
      apply hK; clear hK K
      exact ⟨m - (w + 1), [v', .int .i64 ((w + 1 : Nat) : Int)], by omega, by simp, w + 1, v', rfl, by omega, rfl, by rw [hsucc]; simpa using hO3, hE3⟩
  · have hw' : w = m := by omega
    subst hw'
    refine L_reg [2] (fun K hK => ?_)
    simp
    apply hK; clear hK K
    exact L_ret ⟨.inr rfl, _, rfl, h v H2 (hO.mono hE.1) (hE.trans hE2)⟩
theorem gapL_get (m : Nat) : ∀ (l : List Nat) (i : Nat), i < l.length → (gapL m l)[i]? = some (((l.getD (i + 1) m : Nat) : Int) - (l.getD i 0 : Nat))
  | [], i, h => by simp at h
  | w :: ws, 0, _ => by cases ws <;> simp [gapL]
  | w :: ws, i + 1, h => by
    have := gapL_get m ws i (by simpa using h)
    simpa [gapL] using this
theorem rgaps_ac (m s t : Nat) (h1 : 1 ≤ m) (h2 : m ≤ 100) (h3 : s < m) (h5 : t ≤ per m s) (H : AH) (Q : AV → AH → Prop) (h : ∀ v H', OwnF H.length H' v ((gapsS m s t).map (.int .i64)) → Ext H H' → Q v H') : AC Try.prog 74 [WV m s t] H Q := by
  refine L_body 41 Try.func74 rfl rfl ?_
  refine L_reg [1] (fun K hK => ?_)
  simp [AV.isU, acells, WV]
  apply hK; clear hK K
  obtain ⟨H1, e, hE, -, -, b⟩ := box3 H m s t
  rw [e]
  refine L_reg [1, 3] (fun K hK => ?_)
  simp [okFn_low, b.la]
  refine rround_ac m s t h1 h2 h3 h5 _ _ (fun v H2 hO hE2 => ?_)
  simp
  apply hK; clear hK K
  have b2 := b.ext hE2
  have hpm := per_le m s
  have hl := roundS_len (show 0 < m by omega) h5
  have hgl := gapsS_len (m := m) (s := s) (show 0 < m by omega) h5
  have hLs : Ls H2 v (roundS m s t) := hO.own.ls
  have hget : ∀ i, i < t → ∃ k : Nat, k < t ∧ (roundS m s t)[i]? = some (k : Int) ∧ mkR m s t i = k * s % m := fun i hi => by
    obtain ⟨k, hk, e⟩ := (mem_roundS (m := m) (s := s) (by omega) h5).1 (List.getElem_mem (l := roundS m s t) (n := i) (by omega))
    have e2 : (roundS m s t)[i]? = some (k : Int) := by rw [List.getElem?_eq_getElem (by omega), e]
    exact ⟨k, hk, e2, mkR_some e2⟩
  have hgg : ∀ i, i < t → (gapsS m s t)[i]? = some (((if i + 1 < t then mkR m s t (i + 1) else m : Nat) : Int) - (mkR m s t i : Nat)) := fun i hi => by
    unfold gapsS
    rw [gapL_get m _ i (by simp; omega)]
    congr 2
    · by_cases h : i + 1 < t
      · rw [if_pos h, mkR_get (by omega), List.getD_eq_getElem?_getD, List.getElem?_map, List.getElem?_eq_getElem (by omega)]; rfl
      · rw [if_neg h, List.getD_eq_getElem?_getD, List.getElem?_eq_none (by simp; omega)]; rfl
    · rw [mkR_get (by omega), List.getD_eq_getElem?_getD, List.getElem?_map, List.getElem?_eq_getElem (by omega)]; rfl
  generalize roundS m s t = L at *
  generalize gapsS m s t = G at *
  refine L_reg [1, 3, 4] (fun K hK => ?_)
  simp
  apply hK; clear hK K
  refine L_reg [1, 3, 4, 5] (fun K hK => ?_)
  simp
  apply hK; clear hK K
  refine L_block (L_loopV [4, 5] (fun n vs H' => ∃ (i : Nat) (u : AV), n = t - i ∧ i ≤ t ∧ vs = [u, .int .i64 i] ∧ OwnF H2.length H' u ((G.take i).map (.int .i64)) ∧ Ext H2 H') _ [.slice none 0 0 0 1 false, .int .i64 0] rfl ⟨0, _, rfl, by omega, rfl, .nil _ _, .refl _⟩ ?_)
  rintro n _ H3 ⟨i, u, rfl, hi, rfl, hO3, hE3⟩
  have b3 := b2.ext hE3
  obtain ⟨r, off, ver, sz, full, rfl, hld⟩ := hLs.ext hE3
  refine L_reg [1, 3, 4, 5, 12] (fun K hK => ?_)
  simp [hl]
  apply hK; clear hK K
  refine L_dec (i < t) (by simp) (fun hlt => ?_) (fun hge => L_exit ?_)
  · refine L_block ?_
    obtain ⟨k, hk, ek, em⟩ := hget i hlt
    obtain ⟨r', rfl, rfl, hrd⟩ := hld i (by omega)
    have eki : L[i] = (k : Int) := by rw [List.getElem?_eq_getElem (by omega)] at ek; exact Option.some.inj ek
    rw [eki] at hrd
    have hgi := hgg i hlt
    have hmr := mkR_max (s := s) (t := t) (i := i) (show 0 < m by omega)
    have hmr2 := mkR_max (s := s) (t := t) (i := i + 1) (show 0 < m by omega)
    rw [em] at hgi hmr
    have hks := bound (k := k) h2 h3 h5 (by omega)
    have fin : ∀ (x : Nat), (if i + 1 < t then mkR m s t (i + 1) else m) = x → x ≤ 100 → G.take (i + 1) = G.take i ++ [(x : Int) - (k * s % m : Nat)] := fun x hx _ => by
      rw [hx] at hgi
      rw [List.take_add_one, hgi]; rfl
    refine L_reg [1, 3, 4, 5, 6] (fun K hK => ?_)
    simp [b3.l0]
    apply hK; clear hK K
    refine L_reg [1, 3, 4, 5, 6, 21] (fun K hK => ?_)
    simp [wrap_i64 (a := (i : Int) + 1) (by omega)]
    apply hK; clear hK K
    generalize hmk : k * s % m = mk at *
    by_cases hlt2 : i + 1 < t
    · obtain ⟨k2, hk2, ek2, em2⟩ := hget (i + 1) hlt2
      obtain ⟨r', hr', -, hrd2⟩ := hld (i + 1) (by omega)
      cases hr'
      have eki2 : L[i + 1] = (k2 : Int) := by rw [List.getElem?_eq_getElem (by omega)] at ek2; exact Option.some.inj ek2
      rw [eki2] at hrd2
      have hks2 := bound (k := k2) h2 h3 h5 (by omega)
      have fin := fin (k2 * s % m) (by rw [if_pos hlt2, em2]) (by omega)
      rw [em2] at hmr2
      generalize hmk2 : k2 * s % m = mk2 at *
      refine L_dec (i + 1 < t) (by simp; omega) (fun _ => ?_) (fun hh => absurd hlt2 hh)
      refine L_regQ mixed [1, 3, 4, 5, 6] (by kernel_rfl) (fun K hK => ?_)
      simp [okFn_low, b3.la, wrap_i64 (a := (i : Int) + 1) (by omega), hrd2, show (0 : Int) ≤ (i : Int) + 1 by omega, show (i : Int) + 1 < t by omega, show ((i : Int) + 1).toNat = i + 1 by omega]
      refine exQ_mk (fun Q hQ => rmark_ac m s k2 t (by omega) (by omega) H3 Q hQ) ?_
      simp [hmk2]
      apply hK; clear hK K
      obtain ⟨v', H4, happ, hO4, hE4⟩ := ownF_append hE3 el36 el36 (x := .int .i64 ((mk2 : Int) - (mk : Nat))) (m := 1) hO3 rfl (by simp; omega)
      refine L_regT mixed [1, 3, 4, 5] (by kernel_rfl) (fun K hK => ?_)
      simp [okFn_low, b3.la, hrd, hlt]
      refine exC_mk (fun Q hQ => rmark_ac m s k t (by omega) (by omega) H3 Q hQ) ?_
      simp [hmk, wrap_i64 (a := (mk2 : Int) - (mk : Nat)) (by omega), happ]
      apply hK; clear hK K
      refine L_reg [1, 3, 4, 5] (fun K hK => ?_)
      simp [wrap_i64 (a := (i : Int) + 1) (by omega)]
      apply hK; clear hK K
      exact ⟨t - (i + 1), [v', .int .i64 ((i + 1 : Nat) : Int)], by omega, by simp [hl], i + 1, v', rfl, by omega, rfl, by rw [fin]; simpa using hO4, hE4⟩
    · refine L_dec (i + 1 < t) (by simp; omega) (fun hh => absurd hh hlt2) (fun _ => ?_)
      have fin := fin m (by rw [if_neg hlt2]) (by omega)
      obtain ⟨v', H4, happ, hO4, hE4⟩ := ownF_append hE3 el36 el36 (x := .int .i64 ((m : Int) - (mk : Nat))) (m := 1) hO3 rfl (by simp; omega)
      refine L_regT mixed [1, 3, 4, 5] (by kernel_rfl) (fun K hK => ?_)
      simp [okFn_low, b3.la, hrd, hlt]
      refine exC_mk (fun Q hQ => rmark_ac m s k t (by omega) (by omega) H3 Q hQ) ?_
      simp [hmk, wrap_i64 (a := (m : Int) - (mk : Nat)) (by omega), happ]
      apply hK; clear hK K
      refine L_reg [1, 3, 4, 5] (fun K hK => ?_)
      simp [wrap_i64 (a := (i : Int) + 1) (by omega)]
      apply hK; clear hK K
      exact ⟨t - (i + 1), [v', .int .i64 ((i + 1 : Nat) : Int)], by omega, by simp [hl], i + 1, v', rfl, by omega, rfl, by rw [fin]; simpa using hO4, hE4⟩
  · have hi' : i = t := by omega
    refine L_reg [2] (fun K hK => ?_)
    simp
    apply hK; clear hK K
    have : G.take i = G := by rw [List.take_of_length_le (by omega)]
    rw [this] at hO3
    exact L_ret ⟨.inr rfl, _, rfl, h u H3 (hO3.mono (by have := hE.1; have := hE2.1; omega)) (hE.trans (hE2.trans hE3))⟩
end Go.Proofs.Ytjfmiohgkcjdnaa

/- The reference: widths, turns beside, and what is answered. -/
namespace Go.Proofs.Ytjfmiohgkcjdnaa
open Go Go.Proofs.Ytjfmiohgkcjdnaa.AX

theorem widN_one {L : List Int} (h : ∀ x ∈ L, 1 ≤ x) : widN L 1 = [] := by
  have h0 : L.count ((0 : Nat) : Int) = 0 := List.count_eq_zero.2 fun hm => by have := h _ hm; omega
  rw [widN_succ, h0]
  simp [widN]
theorem widN_stop {L : List Int} {m : Nat} (h : ∀ x ∈ L, x ≤ (m : Int)) : ∀ d, widN L (m + 1 + d) = widN L (m + 1)
  | 0 => rfl
  | d + 1 => by
    have h0 : L.count ((m + 1 + d : Nat) : Int) = 0 := List.count_eq_zero.2 fun hm => by have := h _ hm; omega
    rw [show m + 1 + (d + 1) = (m + 1 + d) + 1 by omega, widN_succ, h0, if_neg (by omega), widN_stop h d]
theorem rwidths_ac (m s t : Nat) (h1 : 1 ≤ m) (h2 : m ≤ 100) (h3 : s < m) (h5 : t ≤ per m s) (H : AH) (Q : AV → AH → Prop) (h : ∀ v H', OwnK 2 H.length H' v (prs (widthsS m s t)) → Ext H H' → Q v H') : AC Try.prog 76 [WV m s t] H Q := by
  refine L_body 39 Try.func76 rfl rfl ?_
  refine L_reg [1] (fun K hK => ?_)
  simp [AV.isU, acells, WV]
  apply hK; clear hK K
  obtain ⟨H1, e, hE, -, -, b⟩ := box3 H m s t
  rw [e]
  refine L_reg [1, 3] (fun K hK => ?_)
  simp
  apply hK; clear hK K
  refine L_reg [1, 3, 4] (fun K hK => ?_)
  simp [okFn_low, b.la]
  refine rgaps_ac m s t h1 h2 h3 h5 _ _ (fun v H2 hO hE2 => ?_)
  simp
  apply hK; clear hK K
  have b2 := b.ext hE2
  have hpm := per_le m s
  have hgl := gapsS_len (m := m) (s := s) (show 0 < m by omega) h5
  have hG := gapsS_bound (m := m) (s := s) (t := t)
  have hLs : Ls H2 v (gapsS m s t) := hO.own.ls
  have hw1 := widN_one (fun x hx => (hG x hx).1)
  have hw2 := widN_stop (m := m) (fun x hx => (hG x hx).2) (100 - m)
  rw [show m + 1 + (100 - m) = 101 by omega] at hw2
  unfold widthsS at h
  generalize gapsS m s t = G at *
  refine L_reg [1, 3, 4, 5] (fun K hK => ?_)
  simp
  apply hK; clear hK K
  refine L_block (L_loopV [3, 5] (fun n vs H' => ∃ (w : Nat) (u : AV), n = m + 1 - w ∧ 1 ≤ w ∧ w ≤ m + 1 ∧ vs = [u, .int .i64 w] ∧ OwnK 2 H2.length H' u (prs (widN G w)) ∧ Ext H2 H') _ [.slice none 0 0 0 1 false, .int .i64 1] rfl ⟨1, _, rfl, by omega, by omega, rfl, by rw [hw1]; exact OwnK.nil _ _ _, .refl _⟩ ?_)
  rintro n _ H3 ⟨w, u, rfl, hw, hwm, rfl, hO3, hE3⟩
  have b3 := b2.ext hE3
  obtain ⟨r, off, ver, sz, full, rfl, hld⟩ := hLs.ext hE3
  refine L_reg [1, 3, 4, 5, 13] (fun K hK => ?_)
  simp [b3.l0]
  apply hK; clear hK K
  refine L_dec (w ≤ m) (by simp) (fun hlt => ?_) (fun hge => L_exit ?_)
  · refine L_block ?_
    refine L_reg [1, 3, 4, 5, 6] (fun K hK => ?_)
    simp
    apply hK; clear hK K
    refine L_reg [1, 3, 4, 5, 6, 7] (fun K hK => ?_)
    simp
    apply hK; clear hK K
    have hcl : ∀ i, (G.take i).count (w : Int) ≤ i := fun i => Nat.le_trans List.count_le_length (by simp; omega)
    refine L_block (L_loopV [6, 7] (fun n vs H' => ∃ i : Nat, n = t - i ∧ i ≤ t ∧ vs = [.int .i64 ((G.take i).count (w : Int) : Nat), .int .i64 i] ∧ H3 = H') _ [.int .i64 0, .int .i64 0] rfl ⟨0, rfl, by omega, by simp, rfl⟩ ?_)
    rintro n _ _ ⟨i, rfl, hi, rfl, rfl⟩
    refine L_reg [1, 3, 4, 5, 6, 7, 19] (fun K hK => ?_)
    simp [hgl]
    apply hK; clear hK K
    have hci := hcl i
    refine L_dec (i < t) (by simp) (fun hlt2 => ?_) (fun hge2 => L_exit ?_)
    · refine L_block ?_
      obtain ⟨r', rfl, rfl, hrd⟩ := hld i (by omega)
      have hsu : (G.take (i + 1)).count (w : Int) = (G.take i).count (w : Int) + (if G[i] = (w : Int) then 1 else 0) := by
        rw [List.take_add_one, List.getElem?_eq_getElem (by omega), List.count_append]
        by_cases e : G[i] = (w : Int)
        · simp [e]
        · simp [e]
      generalize G[i]'(by omega) = x at hrd hsu
      generalize hc2 : (G.take (i + 1)).count (w : Int) = c2 at hsu
      generalize (G.take i).count (w : Int) = c1 at hsu hci
      refine L_reg [1, 3, 4, 5, 6, 7, 27] (fun K hK => ?_)
      simp [hrd, hlt2]
      apply hK; clear hK K
      by_cases he : x = w
      · refine L_true (by simp [he]) ?_
        rw [if_pos he] at hsu
        refine L_reg [1, 3, 4, 5, 6, 7] (fun K hK => ?_)
        simp [wrap_i64 (a := (c1 : Int) + 1) (by omega)]
        apply hK; clear hK K
        refine L_reg [1, 3, 4, 5, 6, 7] (fun K hK => ?_)
        simp [wrap_i64 (a := (i : Int) + 1) (by omega)]
        apply hK; clear hK K
        exact ⟨t - (i + 1), [.int .i64 ((c1 : Int) + 1), .int .i64 ((i + 1 : Nat) : Int)], by omega, by simp [hgl], i + 1, rfl, by omega, by rw [hc2, hsu]; rfl, rfl⟩
      · refine L_false (by simp [he]) ?_
        rw [if_neg he] at hsu
        refine L_reg [1, 3, 4, 5, 6, 7] (fun K hK => ?_)
        simp [wrap_i64 (a := (i : Int) + 1) (by omega)]
        apply hK; clear hK K
        exact ⟨t - (i + 1), [.int .i64 (c1 : Int), .int .i64 ((i + 1 : Nat) : Int)], by omega, by simp [hgl], i + 1, rfl, by omega, by rw [hc2, hsu]; rfl, rfl⟩
    · have hi' : i = t := by omega
      have hG2 : G.take i = G := by rw [List.take_of_length_le (by omega)]
      rw [hG2]
      rw [hG2] at hci
      have hsucc := widN_succ G w
      have hwl := widN_le G w
      generalize G.count (w : Int) = cc at hsucc hci
      refine L_reg [1, 3, 4, 5, 6, 31] (fun K hK => ?_)
      simp
      apply hK; clear hK K
      refine L_dec (0 < cc) (by simp) (fun hpos => ?_) (fun hpos => ?_)
      · rw [if_pos hpos] at hsucc
        obtain ⟨v', H6, happ, hO6, hE6⟩ := ownK_append hE3 elk40 elk40 (x := [.int .i64 w, .int .i64 cc]) (m := 2) hO3 rfl (by simp [AV.one]) (by simp [prs]; omega)
        refine L_reg [1, 3, 4, 5] (fun K hK => ?_)
        simp [happ]
        apply hK; clear hK K
        refine L_reg [1, 3, 4, 5] (fun K hK => ?_)
        simp [wrap_i64 (a := (w : Int) + 1) (by omega)]
        apply hK; clear hK K
        refine ⟨m + 1 - (w + 1), [v', .int .i64 ((w + 1 : Nat) : Int)], by omega, by simp [hgl], w + 1, v', rfl, by omega, by omega, rfl, ?_, hE6⟩
        rw [hsucc]
        simpa [prs] using hO6
      · rw [if_neg hpos] at hsucc
        refine L_reg [1, 3, 4, 5] (fun K hK => ?_)
        simp [wrap_i64 (a := (w : Int) + 1) (by omega)]
        apply hK; clear hK K
        exact ⟨m + 1 - (w + 1), [u, .int .i64 ((w + 1 : Nat) : Int)], by omega, by simp [hgl], w + 1, u, rfl, by omega, by omega, rfl, by rw [hsucc]; exact hO3, hE3⟩
  · have hw' : w = m + 1 := by omega
    subst hw'
    rw [hw2] at h
    refine L_reg [2] (fun K hK => ?_)
    simp
    apply hK; clear hK K
    exact L_ret ⟨.inr rfl, _, rfl, h u H3 ⟨hO3.1, hO3.2.imp id fun ⟨r, ver, st, g1, g2⟩ => ⟨r, ver, st, by have := hE.1; have := hE2.1; omega, g2⟩⟩ (hE.trans (hE2.trans hE3))⟩
theorem rCheck_ac0 (m s t : Int) (H : AH) (Q : AV → AH → Prop) (h : ∀ H', Ext H H' → Q (.int .i64 (checkE m s t)) H') : AC Try.prog 21 [WV m s t] H Q := by
  refine L_body 26 Try.func21 rfl rfl ?_
  refine L_reg [1] (fun K hK => ?_)
  simp [AV.isU, acells, WV]
  apply hK; clear hK K
  obtain ⟨H1, e, hE, -, -, b⟩ := box3 H m s t
  rw [e]
  refine L_reg [1, 3] (fun K hK => ?_)
  simp [okFn_low, b.l0, b.l1]
  refine rcircle_ac m s _ _ ?_
  simp
  apply hK; clear hK K
  by_cases h0 : circleE m s = 0
  · obtain ⟨m, s, rfl, rfl, a1, a2, a3⟩ := circleE_zero h0
    by_cases h1 : t < 1
    · refine L_reg [1, 3, 15] (fun K hK => ?_)
      simp [b.l2, pickV, h0, h1]
      apply hK; clear hK K
      refine L_true (by simp) ?_
      refine L_reg [1, 3] (fun K hK => ?_)
      simp
      apply hK; clear hK K
      refine L_regQ mixed [3, 24] (by kernel_rfl) (fun K hK => ?_)
      simp [pickV]
      apply hK; clear hK K
      refine L_false (by simp) ?_
      refine L_reg [2] (fun K hK => ?_)
      simp
      apply hK; clear hK K
      exact L_ret ⟨.inr rfl, _, rfl, by simpa [checkE, h1] using h _ hE⟩
    · refine L_reg [1, 3, 15] (fun K hK => ?_)
      simp [b.l2, pickV, h0, h1]
      apply hK; clear hK K
      refine L_false (by simp) ?_
      refine L_regQ mixed [3, 24] (by kernel_rfl) (fun K hK => ?_)
      simp [okFn_low, b.l2, b.la]
      refine exQ_mk (fun Q hQ => rdiff_ac m s t (by omega) (by omega) (by omega) H1 Q hQ) ?_
      simp [pickV]
      apply hK; clear hK K
      by_cases h2 : (per m s : Int) < t
      · refine L_true (by simp [h2]) ?_
        refine L_reg [3] (fun K hK => ?_)
        simp
        apply hK; clear hK K
        refine L_reg [2] (fun K hK => ?_)
        simp
        apply hK; clear hK K
        exact L_ret ⟨.inr rfl, _, rfl, by have h3 := h _ hE; rw [checkE, if_neg (by omega), if_pos (by simpa using h2)] at h3; exact h3⟩
      · refine L_false (by simp; omega) ?_
        refine L_reg [2] (fun K hK => ?_)
        simp
        apply hK; clear hK K
        exact L_ret ⟨.inr rfl, _, rfl, by have h3 := h _ hE; rw [checkE, if_neg (by omega), if_neg (by simpa using h2)] at h3; simpa [h0] using h3⟩
  · have hb : (circleE m s == 0) = false := by simpa using h0
    refine L_reg [1, 3, 15] (fun K hK => ?_)
    simp [pickV, hb]
    apply hK; clear hK K
    refine L_false (by simp) ?_
    refine L_regQ mixed [3, 24] (by kernel_rfl) (fun K hK => ?_)
    simp [pickV, hb]
    apply hK; clear hK K
    refine L_false (by simp) ?_
    refine L_reg [2] (fun K hK => ?_)
    simp
    apply hK; clear hK K
    have hc : checkE m s t = circleE m s := by
      unfold circleE at h0 ⊢
      split at h0
      · rename_i h1; rw [checkE, if_pos (by omega), if_pos h1]
      · exact absurd rfl h0
    exact L_ret ⟨.inr rfl, _, rfl, by rw [← hc]; exact h _ hE⟩
theorem rCheck_ac (m s t : Int) (H : AH) (Q : AV → AH → Prop) (h : Q (.int .i64 (checkE m s t)) H) : AC Try.prog 21 [WV m s t] H Q :=
  AC.quiet (belB_int _ _ _ _) (fun Q h => rCheck_ac0 m s t H Q h) Q h
theorem rMark_ac0 (m s t k : Int) (H : AH) (Q : AV → AH → Prop) (h : ∀ H', Ext H H' → Q (.tuple [.int .i64 (markS m s t k).1, .int .i64 (markS m s t k).2]) H') : AC Try.prog 17 [WV m s t, .int .i64 k] H Q := by
  refine L_body 25 Try.func17 rfl rfl ?_
  refine L_reg [1, 2] (fun K hK => ?_)
  simp [AV.isU, acells, WV]
  apply hK; clear hK K
  obtain ⟨H1, e, hE, -, -, b⟩ := box3 H m s t
  rw [e]
  refine L_reg [1, 2, 6] (fun K hK => ?_)
  simp [okFn_low, b.la]
  refine rCheck_ac m s t _ _ ?_
  simp
  apply hK; clear hK K
  by_cases h0 : checkE m s t = 0
  · obtain ⟨m, s, t, rfl, rfl, rfl, a1, a2, a3, a4, a5⟩ := checkE_zero h0
    have hpm := per_le m s
    refine L_reg [1, 2, 6, 18] (fun K hK => ?_)
    simp [okFn_low, b.l2, h0, wrap_i64 (a := (t : Int) - 1) (by omega)]
    refine rin_ac _ _ _ _ _ ?_
    simp [pickV]
    apply hK; clear hK K
    by_cases h1 : 0 ≤ k ∧ k ≤ (t : Int) - 1
    · refine L_false (by simp [h1]) ?_
      refine L_reg [1, 2, 6, 20] (fun K hK => ?_)
      simp
      apply hK; clear hK K
      refine L_false (by simp) ?_
      obtain ⟨k, rfl⟩ : ∃ k' : Nat, k = k' := ⟨k.toNat, by omega⟩
      have h2 : turnE m s t k = 0 := by rw [turnE, if_pos h0, if_pos (by omega)]
      have := bound a2 a3 a5 (show k ≤ t by omega)
      refine L_reg [4, 5] (fun K hK => ?_)
      simp [okFn_low, b.la]
      refine rmark_ac m s k t (by omega) (by omega) _ _ ?_
      simp
      apply hK; clear hK K
      exact L_ret ⟨.inr rfl, _, rfl, by simpa [markS, h2] using h _ hE⟩
    · refine L_true (by simp; omega) ?_
      refine L_reg [1, 2, 6] (fun K hK => ?_)
      simp
      apply hK; clear hK K
      refine L_reg [1, 2, 6, 20] (fun K hK => ?_)
      simp
      apply hK; clear hK K
      refine L_true (by simp) ?_
      refine L_reg [4, 5] (fun K hK => ?_)
      simp
      apply hK; clear hK K
      have h2 : turnE m s t k = 2 := by rw [turnE, if_pos h0, if_neg (by omega)]
      exact L_ret ⟨.inr rfl, _, rfl, by simpa [markS, h2] using h _ hE⟩
  · have hb : (checkE m s t == 0) = false := by simpa using h0
    refine L_reg [1, 2, 6, 18] (fun K hK => ?_)
    simp [pickV, hb]
    apply hK; clear hK K
    refine L_false (by simp) ?_
    refine L_reg [1, 2, 6, 20] (fun K hK => ?_)
    simp
    apply hK; clear hK K
    refine L_true (by simp [h0]) ?_
    refine L_reg [4, 5] (fun K hK => ?_)
    simp
    apply hK; clear hK K
    have h2 : turnE m s t k = checkE m s t := by rw [turnE, if_neg h0]
    exact L_ret ⟨.inr rfl, _, rfl, by simpa [markS, h2, h0] using h _ hE⟩
theorem rMark_ac (m s t k : Int) (H : AH) (Q : AV → AH → Prop) (h : Q (.tuple [.int .i64 (markS m s t k).1, .int .i64 (markS m s t k).2]) H) : AC Try.prog 17 [WV m s t, .int .i64 k] H Q :=
  AC.quiet (by simp [belB]) (fun Q h => rMark_ac0 m s t k H Q h) Q h
theorem firstS_at (m s w : Nat) : ∀ n k, firstS m s w w n k = match atS m s w n k with | some x => ((x : Int), 0) | none => (0, 12)
  | 0, k => rfl
  | n + 1, k => by
    rw [firstS, atS]
    by_cases h : k * s % m = w
    · rw [if_pos (by omega), if_pos h]
    · rw [if_neg (by omega), if_neg h, firstS_at m s w n (k + 1)]
theorem rWhich_ac0 (m s t k : Int) (H : AH) (Q : AV → AH → Prop) (h : ∀ H', Ext H H' → Q (.tuple [.int .i64 (whichS m s t k).1, .int .i64 (whichS m s t k).2]) H') : AC Try.prog 19 [WV m s t, .int .i64 k] H Q := by
  refine L_body 33 Try.func19 rfl rfl ?_
  refine L_reg [1, 2] (fun K hK => ?_)
  simp [AV.isU, acells, WV]
  apply hK; clear hK K
  obtain ⟨H1, e, hE, -, -, b⟩ := box3 H m s t
  rw [e]
  refine L_reg [1, 2, 6] (fun K hK => ?_)
  simp [okFn_low, b.la]
  refine rCheck_ac m s t _ _ ?_
  simp
  apply hK; clear hK K
  by_cases h0 : checkE m s t = 0
  · obtain ⟨m, s, t, rfl, rfl, rfl, a1, a2, a3, a4, a5⟩ := checkE_zero h0
    refine L_reg [1, 2, 6, 18] (fun K hK => ?_)
    simp [okFn_low, b.l0, h0, wrap_i64 (a := (m : Int) - 1) (by omega)]
    refine rin_ac _ _ _ _ _ ?_
    simp [pickV]
    apply hK; clear hK K
    by_cases h1 : 0 ≤ k ∧ k ≤ (m : Int) - 1
    · refine L_false (by simp [h1]) ?_
      obtain ⟨k, rfl⟩ : ∃ k' : Nat, k = k' := ⟨k.toNat, by omega⟩
      have hat := rat_ac m s t k a1 a2 a3 a5 H1
      have hw : whichS m s t k = firstS m s k k t 0 := by rw [whichS, if_pos h0, if_pos (by omega)]; rfl
      rw [firstS_at] at hw
      rw [hw] at h
      unfold atI at hat
      cases ha : atS m s k t 0 with
      | none =>
        rw [ha] at h hat
        refine L_reg [1, 2, 6, 26] (fun K hK => ?_)
        simp [okFn_low, b.la]
        refine hat _ ?_
        simp [pickV]
        apply hK; clear hK K
        refine L_true (by simp) ?_
        refine L_reg [1, 2, 6] (fun K hK => ?_)
        simp
        apply hK; clear hK K
        refine L_reg [1, 2, 6, 28] (fun K hK => ?_)
        simp
        apply hK; clear hK K
        refine L_true (by simp) ?_
        refine L_reg [4, 5] (fun K hK => ?_)
        simp
        apply hK; clear hK K
        exact L_ret ⟨.inr rfl, _, rfl, h _ hE⟩
      | some x =>
        rw [ha] at h hat
        refine L_reg [1, 2, 6, 26] (fun K hK => ?_)
        simp [okFn_low, b.la]
        refine hat _ ?_
        simp [pickV]
        apply hK; clear hK K
        refine L_false (by simp) ?_
        refine L_reg [1, 2, 6, 28] (fun K hK => ?_)
        simp
        apply hK; clear hK K
        refine L_false (by simp) ?_
        refine L_reg [4, 5] (fun K hK => ?_)
        simp [okFn_low, b.la]
        refine hat _ ?_
        simp
        apply hK; clear hK K
        exact L_ret ⟨.inr rfl, _, rfl, h _ hE⟩
    · refine L_true (by simp; omega) ?_
      refine L_reg [1, 2, 6] (fun K hK => ?_)
      simp
      apply hK; clear hK K
      refine L_reg [1, 2, 6, 26] (fun K hK => ?_)
      simp [pickV]
      apply hK; clear hK K
      refine L_false (by simp) ?_
      refine L_reg [1, 2, 6, 28] (fun K hK => ?_)
      simp
      apply hK; clear hK K
      refine L_true (by simp) ?_
      refine L_reg [4, 5] (fun K hK => ?_)
      simp
      apply hK; clear hK K
      have hw : whichS m s t k = (0, 2) := by rw [whichS, if_pos h0, if_neg (by omega)]
      exact L_ret ⟨.inr rfl, _, rfl, by simpa [hw] using h _ hE⟩
  · have hb : (checkE m s t == 0) = false := by simpa using h0
    refine L_reg [1, 2, 6, 18] (fun K hK => ?_)
    simp [pickV, hb]
    apply hK; clear hK K
    refine L_false (by simp) ?_
    refine L_reg [1, 2, 6, 26] (fun K hK => ?_)
    simp [pickV, hb]
    apply hK; clear hK K
    refine L_false (by simp) ?_
    refine L_reg [1, 2, 6, 28] (fun K hK => ?_)
    simp
    apply hK; clear hK K
    refine L_true (by simp [h0]) ?_
    refine L_reg [4, 5] (fun K hK => ?_)
    simp
    apply hK; clear hK K
    have hw : whichS m s t k = (0, checkE m s t) := by rw [whichS, if_neg h0]
    exact L_ret ⟨.inr rfl, _, rfl, by simpa [hw] using h _ hE⟩
theorem rWhich_ac (m s t k : Int) (H : AH) (Q : AV → AH → Prop) (h : Q (.tuple [.int .i64 (whichS m s t k).1, .int .i64 (whichS m s t k).2]) H) : AC Try.prog 19 [WV m s t, .int .i64 k] H Q :=
  AC.quiet (by simp [belB]) (fun Q h => rWhich_ac0 m s t k H Q h) Q h
end Go.Proofs.Ytjfmiohgkcjdnaa

/- The reference: first turns, even numbers, turns that come nearer, quotients. -/
namespace Go.Proofs.Ytjfmiohgkcjdnaa
open Go Go.Proofs.Ytjfmiohgkcjdnaa.AX

theorem newV (H : AH) (a b c : Int) : storeV Try.prog 24 (H ++ [AObj.row [.int .i64 0, .int .i64 0, .int .i64 0] 0 0 false]) (.ptr H.length 0 0) (.agg [.int .i64 a, .int .i64 b, .int .i64 c]) = some (none, H ++ [.row [.int .i64 a, .int .i64 b, .int .i64 c] 0 0 false]) := by
  rw [store_agg ag24 (c := [.int .i64 0, .int .i64 0, .int .i64 0]) (s := 0) (by simp) (by decide) rfl (by simp) rfl (by simp [AV.one])]
  simp
theorem rFirst_ac0 (m s low high : Int) (H : AH) (Q : AV → AH → Prop) (h : ∀ H', Ext H H' → Q (.tuple [.int .i64 (firstR m s low high).1, .int .i64 (firstR m s low high).2]) H') : AC Try.prog 44 [.int .i64 m, .int .i64 s, .int .i64 low, .int .i64 high] H Q := by
  refine L_body 58 Try.func44 rfl rfl ?_
  refine L_reg [0, 1, 2, 3] (fun K hK => ?_)
  simp
  apply hK; clear hK K
  refine L_reg [0, 1, 2, 3, 10] (fun K hK => ?_)
  simp [okFn_low]
  refine rcircle_ac m s _ _ ?_
  simp
  apply hK; clear hK K
  unfold firstR at h
  by_cases h0 : circleE m s = 0
  · obtain ⟨m, s, rfl, rfl, a1, a2, a3⟩ := circleE_zero h0
    rw [if_pos h0] at h
    simp only [Int.toNat_natCast] at h
    by_cases h1 : 0 ≤ low ∧ low ≤ (m : Int) - 1
    · refine L_reg [0, 1, 2, 3, 10, 31] (fun K hK => ?_)
      simp [okFn_low, h0, wrap_i64 (a := (m : Int) - 1) (by omega)]
      refine rin_ac _ _ _ _ _ ?_
      simp [okFn_low, h1, wrap_i64 (a := (m : Int) - 1) (by omega)]
      refine rin_ac _ _ _ _ _ ?_
      simp [pickV]
      apply hK; clear hK K
      by_cases h2 : 0 ≤ high ∧ high ≤ (m : Int) - 1
      · rw [if_pos (by omega)] at h
        refine L_false (by simp [h2]) ?_
        refine L_reg [0, 1, 2, 3, 10, 38] (fun K hK => ?_)
        simp [pickV]
        apply hK; clear hK K
        refine L_dec (high < low) (by simp) (fun h3 => ?_) (fun h3 => ?_)
        · rw [if_pos h3] at h
          refine L_reg [0, 1, 2, 3, 10] (fun K hK => ?_)
          simp
          apply hK; clear hK K
          refine L_reg [0, 1, 2, 3, 10, 40] (fun K hK => ?_)
          simp
          apply hK; clear hK K
          refine L_true (by simp) ?_
          refine L_reg [8, 9] (fun K hK => ?_)
          simp
          apply hK; clear hK K
          exact L_ret ⟨.inr rfl, _, rfl, h _ (.refl _)⟩
        · rw [if_neg h3] at h
          refine L_reg [0, 1, 2, 3, 10, 40] (fun K hK => ?_)
          simp
          apply hK; clear hK K
          refine L_false (by simp) ?_
          refine L_reg [2, 3, 11] (fun K hK => ?_)
          simp [alloc_z zt24, newV]
          apply hK; clear hK K
          obtain ⟨H1, e, hE, hl1, r1, b⟩ := box3 H m s 0
          rw [e]
          refine L_reg [2, 3, 11, 12] (fun K hK => ?_)
          simp
          apply hK; clear hK K
          have hpm := per_le m s
          refine L_block (L_loopV [12] (fun n vs H' => ∃ k : Nat, n = per m s - k ∧ k ≤ per m s ∧ firstS m s low high (per m s - k) k = firstS m s low high (per m s) 0 ∧ vs = [.int .i64 k] ∧ H1 = H') _ [.int .i64 0] rfl ⟨0, rfl, by omega, rfl, rfl, rfl⟩ ?_)
          rintro n _ _ ⟨k, rfl, hk, hf, rfl, rfl⟩
          refine L_reg [2, 3, 11, 12, 48] (fun K hK => ?_)
          simp [okFn_low, b.la]
          refine rdiff_ac m s 0 a1 a2 a3 _ _ ?_
          simp
          apply hK; clear hK K
          refine L_dec (k < per m s) (by simp) (fun hlt => ?_) (fun hge => L_exit ?_)
          · refine L_block ?_
            have hks := bound (k := k) a2 a3 (Nat.le_refl _) (by omega)
            rw [show per m s - k = (per m s - (k + 1)) + 1 by omega, firstS] at hf
            generalize hmk : k * s % m = mk at hf
            refine L_reg [2, 3, 11, 12, 56] (fun K hK => ?_)
            simp [okFn_low, b.la]
            refine rmark_ac m s k 0 (by omega) (by omega) _ _ ?_
            simp [okFn_low, hmk]
            refine rin_ac _ _ _ _ _ ?_
            simp
            apply hK; clear hK K
            by_cases h4 : low ≤ (mk : Int) ∧ (mk : Int) ≤ high
            · refine L_true (by simp [h4]) ?_
              rw [if_pos h4] at hf
              rw [← hf] at h
              refine L_reg [8, 9] (fun K hK => ?_)
              simp
              apply hK; clear hK K
              exact L_ret ⟨.inr rfl, _, rfl, h _ hE⟩
            · refine L_false (by simp; omega) ?_
              rw [if_neg h4] at hf
              refine L_reg [2, 3, 11, 12] (fun K hK => ?_)
              simp [wrap_i64 (a := (k : Int) + 1) (by omega)]
              apply hK; clear hK K
              exact ⟨per m s - (k + 1), [.int .i64 ((k + 1 : Nat) : Int)], by omega, by simp, k + 1, rfl, by omega, hf, rfl, rfl⟩
          · rw [show per m s - k = 0 by omega, firstS] at hf
            rw [← hf] at h
            refine L_reg [8, 9] (fun K hK => ?_)
            simp
            apply hK; clear hK K
            exact L_ret ⟨.inr rfl, _, rfl, h _ hE⟩
      · rw [if_neg (by omega)] at h
        refine L_true (by simp; omega) ?_
        refine L_reg [0, 1, 2, 3, 10] (fun K hK => ?_)
        simp
        apply hK; clear hK K
        refine L_reg [0, 1, 2, 3, 10, 38] (fun K hK => ?_)
        simp [pickV]
        apply hK; clear hK K
        refine L_false (by simp) ?_
        refine L_reg [0, 1, 2, 3, 10, 40] (fun K hK => ?_)
        simp
        apply hK; clear hK K
        refine L_true (by simp) ?_
        refine L_reg [8, 9] (fun K hK => ?_)
        simp
        apply hK; clear hK K
        exact L_ret ⟨.inr rfl, _, rfl, h _ (.refl _)⟩
    · rw [if_neg (by omega)] at h
      refine L_reg [0, 1, 2, 3, 10, 31] (fun K hK => ?_)
      simp [okFn_low, h0, wrap_i64 (a := (m : Int) - 1) (by omega)]
      refine rin_ac _ _ _ _ _ ?_
      simp [pickV, h1]
      apply hK; clear hK K
      refine L_true (by simp) ?_
      refine L_reg [0, 1, 2, 3, 10] (fun K hK => ?_)
      simp
      apply hK; clear hK K
      refine L_reg [0, 1, 2, 3, 10, 38] (fun K hK => ?_)
      simp [pickV]
      apply hK; clear hK K
      refine L_false (by simp) ?_
      refine L_reg [0, 1, 2, 3, 10, 40] (fun K hK => ?_)
      simp
      apply hK; clear hK K
      refine L_true (by simp) ?_
      refine L_reg [8, 9] (fun K hK => ?_)
      simp
      apply hK; clear hK K
      exact L_ret ⟨.inr rfl, _, rfl, h _ (.refl _)⟩
  · have hb : (circleE m s == 0) = false := by simpa using h0
    rw [if_neg h0] at h
    refine L_reg [0, 1, 2, 3, 10, 31] (fun K hK => ?_)
    simp [pickV, hb]
    apply hK; clear hK K
    refine L_false (by simp) ?_
    refine L_reg [0, 1, 2, 3, 10, 38] (fun K hK => ?_)
    simp [pickV, hb]
    apply hK; clear hK K
    refine L_false (by simp) ?_
    refine L_reg [0, 1, 2, 3, 10, 40] (fun K hK => ?_)
    simp
    apply hK; clear hK K
    refine L_true (by simp [h0]) ?_
    refine L_reg [8, 9] (fun K hK => ?_)
    simp
    apply hK; clear hK K
    exact L_ret ⟨.inr rfl, _, rfl, h _ (.refl _)⟩
theorem rFirst_ac (m s low high : Int) (H : AH) (Q : AV → AH → Prop) (h : Q (.tuple [.int .i64 (firstR m s low high).1, .int .i64 (firstR m s low high).2]) H) : AC Try.prog 44 [.int .i64 m, .int .i64 s, .int .i64 low, .int .i64 high] H Q :=
  AC.quiet (by simp [belB]) (fun Q h => rFirst_ac0 m s low high H Q h) Q h
theorem wrapFirst_ac (m s low high : Int) (H : AH) : AC Try.prog 6 [.int .i64 m, .int .i64 s, .int .i64 low, .int .i64 high] H fun u _ => u = .bool true := by
  refine L_body 40 Try.func6 rfl rfl ?_
  refine L_reg [0, 1, 2, 3] (fun K hK => ?_)
  simp
  apply hK; clear hK K
  refine L_reg [0, 1, 2, 3, 9, 10] (fun K hK => ?_)
  simp [okFn_low]
  refine First_ac m s low high _ _ ?_
  simp
  apply hK; clear hK K
  refine L_reg [9, 10, 11, 12] (fun K hK => ?_)
  simp [okFn_low]
  refine rFirst_ac m s low high _ _ ?_
  simp
  apply hK; clear hK K
  refine L_reg [8] (fun K hK => ?_)
  simp [pickV, okFn_low]
  refine works_ac _ _ ?_
  simp [pickV]
  apply hK; clear hK K
  exact L_ret ⟨.inr rfl, _, rfl, rfl⟩
end Go.Proofs.Ytjfmiohgkcjdnaa
