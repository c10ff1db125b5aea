/- Quotients lead back: WrapChain, walked. -/
import Derived.Test.YtjfmiohgkcjdnaaWNear
namespace Go.Proofs.Ytjfmiohgkcjdnaa
open Go Go.Proofs.Ytjfmiohgkcjdnaa.AX

/-- Two numbers, after i steps. -/
def eu (a b : Nat) : Nat → Nat × Nat
  | 0 => (a, b)
  | i + 1 => eu b (a % b) i
theorem eu_next (a b : Nat) : ∀ i, eu a b (i + 1) = ((eu a b i).2, (eu a b i).1 % (eu a b i).2)
  | 0 => rfl
  | i + 1 => by
    show eu b (a % b) (i + 1) = _
    rw [eu_next b (a % b) i]; rfl
theorem quos_eu : ∀ (n a b : Nat), b < n → (∀ i (h : i < (quos a b).length), (quos a b)[i] = (((eu a b i).1 / (eu a b i).2 : Nat) : Int) ∧ (eu a b i).2 ≠ 0) ∧ eu a b (quos a b).length = (Nat.gcd a b, 0) := by
  intro n
  induction n with
  | zero => intro a b h; omega
  | succ n ih =>
    intro a b h
    by_cases hb : b = 0
    · subst hb
      rw [quos_zero]
      exact ⟨fun i h => by simp at h, by simp [eu]⟩
    · have hr : a % b < b := Nat.mod_lt _ (by omega)
      obtain ⟨h1, h2⟩ := ih b (a % b) (by omega)
      rw [quos_pos a hb]
      refine ⟨fun i hi => ?_, ?_⟩
      · cases i with
        | zero => exact ⟨rfl, hb⟩
        | succ i => exact h1 i (by simpa using hi)
      · show eu b (a % b) (quos b (a % b)).length = _
        rw [h2, Nat.gcd_comm a b, Nat.gcd_rec b a, Nat.gcd_comm]
theorem eu_le (a b : Nat) (hab : b < a) : ∀ i, i ≤ (quos a b).length → (eu a b i).1 ≤ a ∧ (i < (quos a b).length → (eu a b i).2 < (eu a b i).1)
  | 0, _ => ⟨Nat.le_refl _, fun _ => hab⟩
  | i + 1, h => by
    obtain ⟨h1, h2⟩ := eu_le a b hab i (by omega)
    have hne := ((quos_eu (b + 1) a b (by omega)).1 i (by omega)).2
    have := h2 (by omega)
    rw [eu_next]
    exact ⟨by omega, fun _ => Nat.mod_lt _ (by omega)⟩
theorem quos_len : ∀ (k a b : Nat), b < 2 ^ k → b < a → (quos a b).length ≤ 2 * k
  | 0, a, b, h, _ => by
    have : b = 0 := by simpa using h
    subst this; rw [quos_zero]; simp
  | k + 1, a, b, h, hab => by
    by_cases hb : b = 0
    · subst hb; rw [quos_zero]; simp
    · rw [quos_pos a hb]
      have hr : a % b < b := Nat.mod_lt _ (by omega)
      by_cases hr0 : a % b = 0
      · rw [hr0, quos_zero]; simp; omega
      · rw [quos_pos b hr0]
        have h3 : b % (a % b) < a % b := Nat.mod_lt _ (by omega)
        have h4 : b % (a % b) + (a % b) ≤ b := by
          have := Nat.div_add_mod b (a % b)
          have h5 : 1 ≤ b / (a % b) := Nat.div_pos (by omega) (by omega)
          have h6 : (a % b) * 1 ≤ (a % b) * (b / (a % b)) := Nat.mul_le_mul_left _ h5
          omega
        have h7 : 2 ^ (k + 1) = 2 * 2 ^ k := by rw [Nat.pow_succ]; omega
        have := quos_len k (a % b) (b % (a % b)) (by omega) h3
        simp only [List.length_cons]; omega
def chainR (m s : Int) : List Int := if circleE m s = 0 then quos m.toNat s.toNat else []
theorem Chain_ac (m s : Int) (H : AH) (Q : AV → AH → Prop) (h : ∀ v H', OwnF H.length H' v ((chainR m s).map (.int .i64)) → Ext H H' → Q (.tuple [v, .int .i64 (circleE m s)]) H') : AC Try.prog 41 [.int .i64 m, .int .i64 s] H Q := by
  refine L_body 26 Try.func41 rfl rfl ?_
  refine L_reg [0, 1] (fun K hK => ?_)
  simp
  apply hK; clear hK K
  unfold chainR at h
  by_cases h0 : circleE m s = 0
  · simp only [h0, if_true] at h
    have hv : wholeV m s = WV m s (per m.toNat s.toNat : Nat) := by rw [wholeV, if_pos h0]
    refine L_reg [0, 1, 7] (fun K hK => ?_)
    simp [okFn_low]
    refine whole_ac m s _ _ ?_
    simp [alloc_z zt23, hv, h0, WV, newW]
    apply hK; clear hK K
    obtain ⟨m, s, rfl, rfl, a1, a2, a3⟩ := circleE_zero h0
    simp only [Int.toNat_natCast] at h ⊢
    have hE := Ext.push H [AObj.row [.int .i64 m, .int .i64 s, .int .i64 (per m s : Nat)] 0 0 false]
    generalize H ++ [AObj.row [.int .i64 m, .int .i64 s, .int .i64 (per m s : Nat)] 0 0 false] = H1 at hE ⊢
    refine L_reg [0, 1, 7, 17] (fun K hK => ?_)
    simp
    apply hK; clear hK K
    refine L_false (by simp) ?_
    refine L_reg [8] (fun K hK => ?_)
    simp [okFn_low]
    refine chain_ac0 m s (by omega) (by omega) _ _ (fun v H2 hO hE2 => ?_)
    simp
    apply hK; clear hK K
    refine L_reg [4, 5] (fun K hK => ?_)
    simp
    apply hK; clear hK K
    exact L_ret ⟨.inr rfl, _, rfl, h v H2 (hO.mono hE.1) (hE.trans hE2)⟩
  · simp only [if_neg h0] at h
    have hv : wholeV m s = WV 0 0 0 := by rw [wholeV, if_neg h0]
    refine L_reg [0, 1, 7] (fun K hK => ?_)
    simp [okFn_low]
    refine whole_ac m s _ _ ?_
    simp [alloc_z zt23, hv, WV, newW]
    apply hK; clear hK K
    refine L_reg [0, 1, 7, 17] (fun K hK => ?_)
    simp
    apply hK; clear hK K
    refine L_true (by simp [h0]) ?_
    refine L_reg [4, 5] (fun K hK => ?_)
    simp
    apply hK; clear hK K
    exact L_ret ⟨.inr rfl, _, rfl, h _ _ (.nil _ _) (.push _ _)⟩
set_option maxRecDepth 100000 in
theorem wrapChain_ac (a b c : Nat) (ha : a < 256) (hb : b < 256) (hc : c < 256) (H : AH) : AC Try.prog 14 [.agg [.int .u8 a, .int .u8 b, .int .u8 c]] H fun u _ => u = .bool true := by
  refine L_body 114 Try.func14 rfl rfl ?_
  obtain ⟨H1, e, hE, hl1, r1, l0, l1, l2, la⟩ := box3u H a b c
  refine L_reg [1] (fun K hK => ?_)
  simp [AV.isU, acells]
  apply hK; clear hK K
  rw [e]
  have hm := mM_ok a
  have hs := mS_ok a b
  have ht := mT_ok a b c
  refine L_reg [3] (fun K hK => ?_)
  simp [okFn_low, la]
  refine made_ac a b c ha hb hc _ _ ?_
  generalize mM a = m at *
  generalize mS a b = s at *
  generalize mT a b c = t at *
  simp [alloc_z zt23, newW, WV]
  apply hK; clear hK K
  obtain ⟨H2, e2, hE2, hl2, r2, bx⟩ := box3 H1 m s t
  rw [e2]
  generalize hp : H1.length = p at *
  have hcz : circleE m s = 0 := by unfold circleE; rw [if_neg (by omega)]
  refine L_reg [3, 4, 5] (fun K hK => ?_)
  simp [okFn_low, bx.l0, bx.l1]
  refine Chain_ac m s _ _ (fun v H3 hO hE3 => ?_)
  have hnR : chainR m s = quos m s := by unfold chainR; rw [if_pos hcz]; rfl
  rw [hnR] at hO
  rw [hcz]
  simp
  apply hK; clear hK K
  have bx3 := bx.ext hE3
  have r3 := hE3.row r2
  have hq := quos_len 7 m s (by omega) hs
  obtain ⟨hq1, hq2⟩ := quos_eu (s + 1) m s (by omega)
  have hq3 := eu_le m s hs
  have hv : Ls H3 v (quos m s) := hO.own.ls
  have hpm := per_le m s
  have hpp := per_pos (m := m) (s := s) (by omega)
  have hg : m / per m s = Nat.gcd m s := by
    unfold per
    have h1 := Nat.div_mul_cancel (Nat.gcd_dvd_left m s)
    have h2 : 0 < m / Nat.gcd m s := hpp
    exact Nat.div_eq_of_eq_mul_right h2 h1.symm
  have hlast : 1 < (quos m s).length → ∀ h : (quos m s).length - 1 < (quos m s).length, 2 ≤ (quos m s)[(quos m s).length - 1] := by
    intro h1 h2
    obtain ⟨h3, h4⟩ := hq1 _ h2
    rw [h3]
    have h5 := (hq3 ((quos m s).length - 1) (by omega)).2 (by omega)
    have h6 := eu_next m s ((quos m s).length - 1)
    rw [show (quos m s).length - 1 + 1 = (quos m s).length by omega, hq2] at h6
    have h7 : (eu m s ((quos m s).length - 1)).1 % (eu m s ((quos m s).length - 1)).2 = 0 := (congrArg Prod.snd h6).symm
    generalize (eu m s ((quos m s).length - 1)).1 = x at *
    generalize (eu m s ((quos m s).length - 1)).2 = y at *
    have h8 := Nat.div_add_mod x y
    have h9 : 2 ≤ x / y := by
      rcases Nat.lt_or_ge (x / y) 2 with h | h
      · have : y * (x / y) ≤ y * 1 := Nat.mul_le_mul_left _ (by omega)
        omega
      · exact h
    omega
  generalize hQ : quos m s = L at *
  obtain ⟨r, off, ver, sz, full, rfl, hld⟩ := hv
  have hln : L.length ≤ 14 := by omega
  refine L_reg [3, 4, 27] (fun K hK => ?_)
  simp
  apply hK; clear hK K
  refine L_false (by simp; omega) ?_
  have hper0 : per m s ≠ 0 := by omega
  have e3 : ((m : Int)).tdiv (per m s : Int) = ((Nat.gcd m s : Nat) : Int) := by
    rw [Int.tdiv_eq_ediv_of_nonneg (by omega), ← hg]; rfl
  have hgl : Nat.gcd m s ≤ m := Nat.le_of_dvd (by omega) (Nat.gcd_dvd_left m s)
  refine L_regQ mixed [3, 4, 6, 7] (by kernel_rfl) (fun K hK => ?_)
  simp [okFn_low, bx3.l0, bx3.l1]
  refine exQ_mk (fun Q hQ => diff_ac m s hm.1 hm.2 hs _ Q hQ) ?_
  simp [hper0, e3, wrap_i64 (a := ((Nat.gcd m s : Nat) : Int)) (by omega)]
  apply hK; clear hK K
  refine L_reg [3, 4, 6, 7, 8] (fun K hK => ?_)
  simp [wrap_i64 (a := (L.length : Int) - 1) (by omega)]
  apply hK; clear hK K
  refine L_block (L_loopV [6, 7, 8] (fun n vs H' => ∃ i : Nat, n = i ∧ i ≤ L.length ∧ vs = [.int .i64 ((eu m s i).1 : Nat), .int .i64 ((eu m s i).2 : Nat), .int .i64 ((i : Int) - 1)] ∧ H3 = H') _ [.int .i64 (Nat.gcd m s : Nat), .int .i64 0, .int .i64 ((L.length : Int) - 1)] rfl ⟨L.length, rfl, Nat.le_refl _, by rw [hq2]; rfl, rfl⟩ ?_)
  rintro n _ _ ⟨i, rfl, hi, rfl, rfl⟩
  refine L_reg [3, 4, 6, 7, 8, 40] (fun K hK => ?_)
  simp
  apply hK; clear hK K
  have hxi := (hq3 n hi).1
  refine L_dec ((0 : Int) ≤ (n : Int) - 1) (by simp) (fun hlt => ?_) (fun hge => L_exit ?_)
  · refine L_block ?_
    obtain ⟨j, rfl⟩ : ∃ j, n = j + 1 := ⟨n - 1, by omega⟩
    obtain ⟨r', rfl, rfl, hrd⟩ := hld j (by omega)
    have hj := hq1 j (by omega)
    have hj3 := hq3 j (by omega)
    have hj4 := hj3.2 (by omega)
    have hnx := eu_next m s j
    rw [hj.1] at hrd
    generalize heu : eu m s j = xy at *
    obtain ⟨x, y⟩ := xy
    rw [hnx] at hxi ⊢
    simp only at *
    have h8 := Nat.div_add_mod x y
    have h9 : 1 ≤ x / y := Nat.div_pos (by omega) (by omega)
    have h10 : x / y ≤ x := Nat.div_le_self _ _
    have h11 : x / y * y ≤ x := by rw [Nat.mul_comm]; omega
    have h12 : ((x / y : Nat) : Int) * y + ((x % y : Nat) : Int) = x := by
      have : ((x / y * y + x % y : Nat) : Int) = x := by rw [Nat.mul_comm]; omega
      push_cast at this
      exact this
    have h13 : ((x / y : Nat) : Int) * y ≤ 100 ∧ 0 ≤ ((x / y : Nat) : Int) * y := by
      have : ((x / y * y : Nat) : Int) = ((x / y : Nat) : Int) * y := by push_cast; rfl
      omega
    generalize x / y = qq at *
    generalize x % y = rr at *
    generalize hpq : (qq : Int) * y = pq at *
    refine L_reg [3, 4, 6, 7, 8, 58] (fun K hK => ?_)
    simp [pickV, show ((j : Int) + 1 - 1) = j by omega, hrd, show (0 : Int) ≤ j by omega, show (j : Int) < L.length by omega, show ¬ ((qq : Int) < 1) by omega, show ¬ (100 < (qq : Int)) by omega]
    apply hK; clear hK K
    refine L_false (by simp; omega) ?_
    refine L_reg [3, 4, 6, 7, 8] (fun K hK => ?_)
    simp [hrd, show (0 : Int) ≤ j by omega, show (j : Int) < L.length by omega, hpq, wrap_i64 (a := pq) (by omega), h12, wrap_i64 (a := (x : Int)) (by omega)]
    apply hK; clear hK K
    refine L_reg [3, 4, 6, 7, 8] (fun K hK => ?_)
    simp [wrap_i64 (a := (j : Int) - 1) (by omega)]
    apply hK; clear hK K
    exact ⟨j, [.int .i64 x, .int .i64 y, .int .i64 ((j : Int) - 1)], by omega, by simp, j, rfl, by omega, by rw [heu], rfl⟩
  · have hn0 : n = 0 := by omega
    subst hn0
    have he0 : eu m s 0 = (m, s) := rfl
    rw [he0]
    simp only
    refine L_reg [3, 4, 6, 7, 9] (fun K hK => ?_)
    simp
    apply hK; clear hK K
    have hck1 : checkE m s (per m s : Nat) = 0 := checkE_ok hm.1 hm.2 hs (by omega) (Nat.le_refl _)
    have hck2 : checkE m s ((per m s : Int) + 1) = 3 := by
      unfold checkE
      rw [if_neg (by omega), if_pos (by simp; omega)]
    by_cases hL1 : 1 < L.length
    · obtain ⟨r', rfl, rfl, hrd⟩ := hld (L.length - 1) (by omega)
      have h2 := hlast hL1 (by omega)
      refine L_reg [3, 6, 7, 79] (fun K hK => ?_)
      simp [pickV, wrap_i64 (a := (L.length : Int) - 1) (by omega), show ((L.length : Int) - 1).toNat = L.length - 1 by omega, hrd, show (1 : Int) ≤ L.length by omega, show (L.length : Int) - 1 < L.length by omega, show (1 : Int) < L.length by omega]
      apply hK; clear hK K
      refine L_false (by simp; omega) ?_
      refine L_reg [3, 6, 7] (fun K hK => ?_)
      simp [okFn_low, bx3.l0, bx3.l1]
      refine diff_ac m s hm.1 hm.2 hs _ _ ?_
      simp [setT r3]
      apply hK; clear hK K
      have r4 := get_set (o' := AObj.row [.int .i64 m, .int .i64 s, .int .i64 (per m s : Nat)] 0 0 false) r3
      generalize hH4 : H3.set p (AObj.row [.int .i64 m, .int .i64 s, .int .i64 (per m s : Nat)] 0 0 false) = H4 at *
      have bx4 := Bx.row r4
      refine L_reg [3, 6, 7, 10] (fun K hK => ?_)
      simp [bx4.la, alloc_z zt23, newW]
      apply hK; clear hK K
      have hE5 := Ext.push H4 [AObj.row [.int .i64 m, .int .i64 s, .int .i64 (per m s : Nat)] 0 0 false]
      have r5 : (H4 ++ [AObj.row [.int .i64 m, .int .i64 s, .int .i64 (per m s : Nat)] 0 0 false])[H4.length]? = some (AObj.row [.int .i64 m, .int .i64 s, .int .i64 (per m s : Nat)] 0 0 false) := by simp
      have bx5 := bx4.ext hE5
      generalize hp2 : H4.length = p2 at *
      generalize H4 ++ [AObj.row [.int .i64 m, .int .i64 s, .int .i64 (per m s : Nat)] 0 0 false] = H5 at *
      have b6 := Bx.row r5
      have hp12 : p2 ≠ p := by
        have h1 := (List.getElem?_eq_some_iff.1 r4).1
        omega
      refine L_reg [3, 6, 7, 10] (fun K hK => ?_)
      simp [b6.l2, setT r5, wrap_i64 (a := (per m s : Int) + 1) (by omega)]
      apply hK; clear hK K
      have r7 := get_set (o' := AObj.row [.int .i64 m, .int .i64 s, .int .i64 ((per m s : Int) + 1)] 0 0 false) r5
      have b7 := Bx.row r7
      have b8 : Bx (H5.set p2 (AObj.row [.int .i64 m, .int .i64 s, .int .i64 ((per m s : Int) + 1)] 0 0 false)) p m s (per m s : Nat) := Bx.row (st := 0) (ro := false) (by rw [set_ne hp12, hE5.row r4])
      generalize H5.set p2 (AObj.row [.int .i64 m, .int .i64 s, .int .i64 ((per m s : Int) + 1)] 0 0 false) = H7 at *
      refine L_reg [2] (fun K hK => ?_)
      simp [pickV, okFn_low, b8.l0, b8.l1, b8.la]
      refine Check_ac m s (per m s : Nat) _ _ ?_
      simp [pickV, okFn_low, b7.la, hck1]
      refine Check_ac m s ((per m s : Int) + 1) _ _ ?_
      simp [pickV, okFn_low, hck2]
      refine works_ac _ _ ?_
      simp [pickV]
      apply hK; clear hK K
      exact L_ret ⟨.inr rfl, _, rfl, rfl⟩
    · refine L_reg [3, 6, 7, 79] (fun K hK => ?_)
      simp [pickV, show ¬ ((1 : Int) < L.length) by omega]
      apply hK; clear hK K
      refine L_false (by simp) ?_
      refine L_reg [3, 6, 7] (fun K hK => ?_)
      simp [okFn_low, bx3.l0, bx3.l1]
      refine diff_ac m s hm.1 hm.2 hs _ _ ?_
      simp [setT r3]
      apply hK; clear hK K
      have r4 := get_set (o' := AObj.row [.int .i64 m, .int .i64 s, .int .i64 (per m s : Nat)] 0 0 false) r3
      generalize hH4 : H3.set p (AObj.row [.int .i64 m, .int .i64 s, .int .i64 (per m s : Nat)] 0 0 false) = H4 at *
      have bx4 := Bx.row r4
      refine L_reg [3, 6, 7, 10] (fun K hK => ?_)
      simp [bx4.la, alloc_z zt23, newW]
      apply hK; clear hK K
      have hE5 := Ext.push H4 [AObj.row [.int .i64 m, .int .i64 s, .int .i64 (per m s : Nat)] 0 0 false]
      have r5 : (H4 ++ [AObj.row [.int .i64 m, .int .i64 s, .int .i64 (per m s : Nat)] 0 0 false])[H4.length]? = some (AObj.row [.int .i64 m, .int .i64 s, .int .i64 (per m s : Nat)] 0 0 false) := by simp
      have bx5 := bx4.ext hE5
      generalize hp2 : H4.length = p2 at *
      generalize H4 ++ [AObj.row [.int .i64 m, .int .i64 s, .int .i64 (per m s : Nat)] 0 0 false] = H5 at *
      have b6 := Bx.row r5
      have hp12 : p2 ≠ p := by
        have h1 := (List.getElem?_eq_some_iff.1 r4).1
        omega
      refine L_reg [3, 6, 7, 10] (fun K hK => ?_)
      simp [b6.l2, setT r5, wrap_i64 (a := (per m s : Int) + 1) (by omega)]
      apply hK; clear hK K
      have r7 := get_set (o' := AObj.row [.int .i64 m, .int .i64 s, .int .i64 ((per m s : Int) + 1)] 0 0 false) r5
      have b7 := Bx.row r7
      have b8 : Bx (H5.set p2 (AObj.row [.int .i64 m, .int .i64 s, .int .i64 ((per m s : Int) + 1)] 0 0 false)) p m s (per m s : Nat) := Bx.row (st := 0) (ro := false) (by rw [set_ne hp12, hE5.row r4])
      generalize H5.set p2 (AObj.row [.int .i64 m, .int .i64 s, .int .i64 ((per m s : Int) + 1)] 0 0 false) = H7 at *
      refine L_reg [2] (fun K hK => ?_)
      simp [pickV, okFn_low, b8.l0, b8.l1, b8.la]
      refine Check_ac m s (per m s : Nat) _ _ ?_
      simp [pickV, okFn_low, b7.la, hck1]
      refine Check_ac m s ((per m s : Int) + 1) _ _ ?_
      simp [pickV, okFn_low, hck2]
      refine works_ac _ _ ?_
      simp [pickV]
      apply hK; clear hK K
      exact L_ret ⟨.inr rfl, _, rfl, rfl⟩
theorem wrapChain_int (n : List Int) (e : n.length = 3) (b : ∀ x ∈ n, IntKind.u8.min ≤ x ∧ x ≤ IntKind.u8.max) (H : AH) : AC Try.prog 14 [.agg (n.map (.int .u8))] H fun u _ => u = .bool true := by
  obtain ⟨x, y, z, rfl, hx, hy, hz⟩ := roll_int e b
  exact wrapChain_ac x y z hx hy hz H
end Go.Proofs.Ytjfmiohgkcjdnaa
