/- Where a rule and a plan differ; any so many may open. -/
import Derived.Test.YtcidcihpkdoejaaPub2
namespace Go.Proofs.Ytcidcihpkdoejaa.Bo
open Go Go.Proofs.Ytcidcihpkdoejaa Go.Proofs.Ytcidcihpkdoejaa.AX
set_option maxRecDepth 100000
/-- The first group that is so. -/
def fitG (N : Nat) (p : Nat → Bool) : Nat := ((List.range N).find? p).getD 0
def fitE (N : Nat) (p : Nat → Bool) : Int := if ((List.range N).find? p).isSome then 0 else 13
theorem fit_hit {N i : Nat} {p : Nat → Bool} (hi : i < N) (h : p i = true) (hb : ∀ j, j < i → p j = false) : fitG N p = i ∧ fitE N p = 0 := by
  have : (List.range N).find? p = some i := by
    rw [List.find?_range_eq_some]
    exact ⟨h, List.mem_range.2 hi, fun j hj => by rw [hb j hj]; rfl⟩
  simp [fitG, fitE, this]
theorem fit_none {N : Nat} {p : Nat → Bool} (hb : ∀ j, j < N → p j = false) : fitG N p = 0 ∧ fitE N p = 13 := by
  have : (List.range N).find? p = none := by
    rw [List.find?_range_eq_none]
    exact fun j hj => by rw [hb j hj]; rfl
  simp [fitG, fitE, this]
theorem fit_congr {N : Nat} {p q : Nat → Bool} (h : ∀ j, j < N → p j = q j) : fitG N p = fitG N q ∧ fitE N p = fitE N q := by
  have : (List.range N).find? p = (List.range N).find? q := by
    have : ∀ L : List Nat, (∀ x ∈ L, p x = q x) → L.find? p = L.find? q := by
      intro L
      induction L with
      | nil => intro _; rfl
      | cons a L ih =>
        intro hL
        simp only [List.find?_cons, hL a (by simp), ih fun x hx => hL x (by simp [hx])]
    exact this _ fun x hx => h x (List.mem_range.1 hx)
  simp [fitG, fitE, this]
/-- Where a rule and a plan differ. -/
def dfS (l m : List Nat) (g : Nat) : Bool := within l g != meets m g
/-- The error of both, and the group. -/
def fitsE (n : Int) (l : List Int) (n' : Int) (l' : List Int) : Int := if chk n l ≠ 0 then chk n l else if chk n' l' ≠ 0 then chk n' l' else if n ≠ n' then 5 else fitE (2 ^ n.toNat) (dfS (l.map Int.toNat) (l'.map Int.toNat))
def fitsG (n : Int) (l : List Int) (n' : Int) (l' : List Int) : Nat := if chk n l ≠ 0 then 0 else if chk n' l' ≠ 0 then 0 else if n ≠ n' then 0 else fitG (2 ^ n.toNat) (dfS (l.map Int.toNat) (l'.map Int.toNat))
theorem il_nat (l : List Nat) : (il l).map Int.toNat = l := by
  unfold il; rw [List.map_map]
  conv => rhs; rw [← List.map_id l]
  apply List.map_congr_left
  intro x _; simp
theorem Fits_q (n n' : Int) (l l' : List Int) (s s' : AV) (hlen : l.length ≤ 1000000) (hlen' : l'.length ≤ 1000000) (H : AH) (hs : Ls H s l) (hs' : Ls H s' l') (Q : AV → AH → Prop) (h0 : Q (.tuple [.int .i64 (fitsG n l n' l' : Nat), .int .i64 (fitsE n l n' l')]) H) : AC Try.prog 37 [cA n s, cA n' s'] H Q := by
  refine AC.quiet (belB_ie _ _ _ _ _) (fun Q h => ?_) Q h0
  clear h0
  refine L_body 49 Try.func37 rfl rfl ?_
  have hk := ls_known hs
  have hk' := ls_known hs'
  refine L_reg [2, 3] (fun K hK => ?_)
  simp [cA, AV.isU, acells]
  apply hK; clear hK K
  have h1 : (H ++ [AObj.row [.int .i64 n, s] 0 0 false, AObj.row [.int .i64 n', s'] 0 0 false])[H.length]? = some (.row [.int .i64 n, s] 0 0 false) := by simp
  have h2 : (H ++ [AObj.row [.int .i64 n, s] 0 0 false, AObj.row [.int .i64 n', s'] 0 0 false])[H.length + 1]? = some (.row [.int .i64 n', s'] 0 0 false) := by simp
  have hE : Ext H (H ++ [AObj.row [.int .i64 n, s] 0 0 false, AObj.row [.int .i64 n', s'] 0 0 false]) := .push _ _
  generalize H ++ [AObj.row [.int .i64 n, s] 0 0 false, AObj.row [.int .i64 n', s'] 0 0 false] = H1 at h1 h2 hE ⊢
  have a1 := ldn_c h1 hk
  obtain ⟨I, hI, hz⟩ := zeroT_some zt94
  obtain ⟨J, hJ, hzJ⟩ := zeroT_some zt104
  have hbo : ∃ a b lx, inS n l s = cA a b ∧ b.one = true ∧ known (some b) = some b ∧ (chk n l = 0 → a = n ∧ b = s) ∧ lx = b := by
    by_cases hc : chk n l = 0
    · exact ⟨n, s, s, inS_ok hc, ls_one hs, hk, fun _ => ⟨rfl, rfl⟩, rfl⟩
    · exact ⟨0, nilS, nilS, inS_bad hc, rfl, rfl, fun h => absurd h hc, rfl⟩
  obtain ⟨a, b, -, hin, hb1, hbk, hab, -⟩ := hbo
  refine L_reg [3, 6, 7] (fun K hK => ?_)
  simp [okFn_low, a1]
  refine checkedRule_ac n l s hlen _ (hs.ext hE) _ fun H2 hE2 => ?_
  have hst := st2 (t := 94) ag94 (n := a) (s := b) (k := 0) (n' := 0) (s' := nilS) (p := H2.length) (H := H2 ++ [AObj.row [.int .i64 0, nilS] 0 0 false]) (by simp) (by intro h; cases h) hb1
  simp [hI, hz, hin, hst, cA]
  apply hK; clear hK K
  have h4 : (H2 ++ [AObj.row [.int .i64 a, b] 0 0 false])[H2.length]? = some (.row [.int .i64 a, b] 0 0 false) := by simp
  have h3 : (H2 ++ [AObj.row [.int .i64 a, b] 0 0 false])[H.length + 1]? = some (.row [.int .i64 n', s'] 0 0 false) := by
    have hl2 := (List.getElem?_eq_some_iff.1 h2).1
    rw [List.getElem?_append_left (by have := hE2.1; omega), hE2.2 _ hl2]; exact h2
  have hE3 : Ext H (H2 ++ [AObj.row [.int .i64 a, b] 0 0 false]) := (hE.trans hE2).trans (.push _ _)
  generalize H2 ++ [AObj.row [.int .i64 a, b] 0 0 false] = H3 at h4 h3 hE3 ⊢
  refine L_reg [3, 6, 7, 16] (fun K hK => ?_)
  simp
  apply hK; clear hK K
  unfold fitsE fitsG at h
  by_cases hc : chk n l = 0
  case neg =>
    rw [if_pos hc, if_pos hc] at h
    refine L_true (by simp [hc]) ?_
    refine L_reg [4, 5] (fun K hK => ?_)
    simp
    apply hK; clear hK K
    exact L_ret ⟨.inr rfl, _, rfl, h _ hE3⟩
  simp only [hc, ne_eq, not_true_eq_false, if_false] at h
  obtain ⟨rfl, rfl⟩ := hab hc
  refine L_false (by simp [hc]) ?_
  have a3 := ldn_c h3 hk'
  have hbo : ∃ a b lx, inS n' l' s' = cA a b ∧ b.one = true ∧ known (some b) = some b ∧ (chk n' l' = 0 → a = n' ∧ b = s') ∧ lx = b := by
    by_cases hc : chk n' l' = 0
    · exact ⟨n', s', s', inS_ok hc, ls_one hs', hk', fun _ => ⟨rfl, rfl⟩, rfl⟩
    · exact ⟨0, nilS, nilS, inS_bad hc, rfl, rfl, fun h => absurd h hc, rfl⟩
  obtain ⟨a', b', -, hin', hb1', hbk', hab', -⟩ := hbo
  refine L_reg [6, 7, 8] (fun K hK => ?_)
  simp [okFn_low, a3]
  refine checkedPlan_ac n' l' s' hlen' _ (hs'.ext hE3) _ fun H5 hE5 => ?_
  have hst := st2 (t := 104) ag104 (n := a') (s := b') (k := 0) (n' := 0) (s' := nilS) (p := H5.length) (H := H5 ++ [AObj.row [.int .i64 0, nilS] 0 0 false]) (by simp) (by intro h; cases h) hb1'
  simp [hJ, hzJ, hin', hst, cA]
  apply hK; clear hK K
  have h8 : (H5 ++ [AObj.row [.int .i64 a', b'] 0 0 false])[H5.length]? = some (.row [.int .i64 a', b'] 0 0 false) := by simp
  have h6 : (H5 ++ [AObj.row [.int .i64 a', b'] 0 0 false])[H2.length]? = some (.row [.int .i64 a, b] 0 0 false) := by
    have hl2 := (List.getElem?_eq_some_iff.1 h4).1
    rw [List.getElem?_append_left (by have := hE5.1; omega), hE5.2 _ hl2]; exact h4
  have hE6 : Ext H (H5 ++ [AObj.row [.int .i64 a', b'] 0 0 false]) := (hE3.trans hE5).trans (.push _ _)
  generalize H5 ++ [AObj.row [.int .i64 a', b'] 0 0 false] = H6 at h8 h6 hE6 ⊢
  refine L_reg [6, 7, 8, 24] (fun K hK => ?_)
  simp
  apply hK; clear hK K
  by_cases hc' : chk n' l' = 0
  case neg =>
    rw [if_pos hc', if_pos hc'] at h
    refine L_true (by simp [hc']) ?_
    refine L_reg [4, 5] (fun K hK => ?_)
    simp
    apply hK; clear hK K
    exact L_ret ⟨.inr rfl, _, rfl, h _ hE6⟩
  simp only [hc', not_true_eq_false, if_false] at h
  obtain ⟨rfl, rfl⟩ := hab' hc'
  refine L_false (by simp [hc']) ?_
  have c6 := ld_c0 h6
  have c8 := ld_c0 h8
  refine L_reg [6, 8, 32] (fun K hK => ?_)
  simp [c6, c8]
  apply hK; clear hK K
  by_cases hnn : a = a'
  case neg =>
    rw [if_pos hnn, if_pos hnn] at h
    refine L_true (by simp [hnn]) ?_
    refine L_reg [4, 5] (fun K hK => ?_)
    simp
    apply hK; clear hK K
    exact L_ret ⟨.inr rfl, _, rfl, h _ hE6⟩
  subst hnn
  simp only [not_true_eq_false, if_false] at h
  refine L_false (by simp) ?_
  obtain ⟨m, k, rfl, rfl, hr⟩ := chk_ok hc
  obtain ⟨m', k', hm, rfl, hr'⟩ := chk_ok hc'
  obtain rfl : m = m' := by omega
  rw [il_nat, il_nat, Int.toNat_natCast] at h
  have h64 := pw64 hr.n6
  have hp := pw m
  have a6 := ldn_c h6 hk
  have a8 := ldn_c h8 hk'
  refine L_reg [6, 8, 36, 37] (fun K hK => ?_)
  simp [okFn_low, a6]
  refine everybody_q hr.n6 b hk _ _ ?_
  simp [wrap_i64 (a := ((2 ^ m - 1 : Nat) : Int) + 1) (by omega)]
  apply hK; clear hK K
  have e0 : ((2 ^ m - 1 : Nat) : Int) + 1 = ((2 ^ m : Nat) : Int) := by omega
  rw [e0]
  have hs6 := hs.ext hE6
  have hs8 := hs'.ext hE6
  obtain ⟨N, hN⟩ : ∃ N, 2 ^ m = N := ⟨_, rfl⟩
  rw [hN] at h h64 hp ⊢
  refine L_block (L_loopV [37] (fun q vs H' => ∃ i : Nat, q = N - i ∧ i ≤ N ∧ vs = [.int .i64 i] ∧ H6 = H' ∧ ∀ j, j < i → dfS k k' j = false) _ [.int .i64 (0 : Nat)] rfl ⟨0, rfl, by omega, rfl, rfl, fun j hj => by omega⟩ ?_)
  rintro q _ _ ⟨i, rfl, hi, rfl, rfl, hb⟩
  refine L_reg [6, 8, 36, 37, 38] (fun K hK => ?_)
  simp
  apply hK; clear hK K
  refine L_dec (i < N) (by simp) (fun hlt => ?_) (fun hge => L_exit ?_)
  · refine L_block ?_
    refine L_reg [6, 8, 9, 36, 37] (fun K hK => ?_)
    simp
    apply hK; clear hK K
    refine L_regQ mixed [6, 8, 9, 36, 37, 46] (by kernel_rfl) (fun K hK => ?_)
    simp [okFn_low, a6, okFn_low]
    refine exQ_mk (fun Q hQ => may_q hr i (by omega) b _ hs6 Q hQ) ?_
    simp [okFn_low, a8, okFn_low]
    refine exQ_mk (fun Q hQ => opens_q hr' i (by omega) b' _ hs8 Q hQ) ?_
    simp [b_neqB Try.underlying4]
    apply hK; clear hK K
    cases hd : dfS k k' i with
    | true =>
      obtain ⟨f1, f2⟩ := fit_hit hlt hd hb
      rw [f1, f2] at h
      refine L_true (by simpa [dfS] using hd) ?_
      refine L_reg [4, 5] (fun K hK => ?_)
      simp
      apply hK; clear hK K
      exact L_ret ⟨.inr rfl, _, rfl, h _ hE6⟩
    | false =>
      refine L_false (by simpa [dfS] using hd) ?_
      refine L_reg [6, 8, 36, 37] (fun K hK => ?_)
      simp [wrap_i64 (a := (i : Int) + 1) (by omega)]
      apply hK; clear hK K
      refine ⟨N - (i + 1), [.int .i64 (i + 1 : Nat)], by omega, by simp, i + 1, rfl, by omega, rfl, rfl, fun j hj => ?_⟩
      by_cases e : j = i
      · rw [e]; exact hd
      · exact hb j (by omega)
  · have e : i = N := by omega
    subst e
    obtain ⟨f1, f2⟩ := fit_none hb
    rw [f1, f2] at h
    refine L_reg [4, 5] (fun K hK => ?_)
    simp
    apply hK; clear hK K
    exact L_ret ⟨.inr rfl, _, rfl, h _ hE6⟩
end Go.Proofs.Ytcidcihpkdoejaa.Bo
