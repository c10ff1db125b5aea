/- Keep. -/
import Derived.Test.YtfbpgnjeafadmaaPlc
namespace Go.Proofs.Ytfbpgnjeafadmaa.Fl
open Go Go.Proofs.Ytfbpgnjeafadmaa Go.Proofs.Ytfbpgnjeafadmaa.AX
set_option maxRecDepth 100000

theorem colS_sup {n : Nat} {T : Nat → Bool} : ∀ (l : List Int) {S : Nat → Bool}, (∀ b, S b = true → b < n) → ∀ b, (colS n T S l).1 b = true → b < n
  | [], S, hS, b, h => hS b h
  | x :: l, S, hS, b, h => by
    simp only [colS] at h
    split at h
    · simp [none'] at h
    · rename_i h1
      split at h
      · simp [none'] at h
      · split at h
        · simp [none'] at h
        · refine colS_sup l (fun y hy => ?_) b h
          unfold upd at hy
          split at hy
          · rename_i e; subst e; omega
          · exact hS y hy
theorem sickS_sup (m k : Int) (l : List Int) (b : Nat) (h : (sickS m k l).1 b = true) : b < m.toNat * k.toNat := colS_sup l (fun b hb => by simp [none'] at hb) b h
theorem coldS_sup (m k : Int) (l o : List Int) (b : Nat) (h : (coldS m k l o).1 b = true) : b < m.toNat * k.toNat := colS_sup o (fun b hb => by simp [none'] at hb) b h
def lostS (r c : Nat) (S Z : Nat → Bool) (b : Nat) : Bool := S b || (!Z b && decide (2 ≤ bes r c S b))
/-- The bales that may be frozen to keep one. -/
def freeS (n : Nat) (S Z : Nat → Bool) (b : Nat) : Nat → Bool := upd (sub' (opn n Z) S) b false
theorem chk_sides {m k : Int} {l o : List Int} (h : chkE m k l o = 0) : okSides m k := by
  unfold chkE at h
  split at h
  · assumption
  · cases h
theorem chk_F {m k : Int} {l o : List Int} (h : chkE m k l o = 0) : chkF m k l o = fl m.toNat k.toNat (sickS m k l).1 (coldS m k l o).1 := by
  unfold chkF; rw [if_pos h]
theorem new81 (H : AH) (r c : Nat) (S Z : Nat → Bool) : storeV Try.prog 81 (H ++ [AObj.row (fl 0 0 none' none') 0 0 false]) (.ptr H.length 0 0) (.agg (fl r c S Z)) = some (none, H ++ [AObj.row (fl r c S Z) 0 0 false]) := by
  rw [st_F (r := 0) (c := 0) (S := none') (Z := none') (s := 0) (by simp)]
  simp
theorem new81F (H : AH) (m k : Int) (l o : List Int) : storeV Try.prog 81 (H ++ [AObj.row (fl 0 0 none' none') 0 0 false]) (.ptr H.length 0 0) (.agg (chkF m k l o)) = some (none, H ++ [AObj.row (chkF m k l o) 0 0 false]) := by
  unfold chkF
  split <;> exact new81 ..
theorem Keep_ac (m k : Int) (u w : AV) (l o : List Int) (b : Int) (H : AH) (Q : AV → AH → Prop) (hu : Ls H u l) (hw : Ls H w o) (hl : l.length ≤ 1000000) (ho : o.length ≤ 1000000)
    (he : chkE m k l o ≠ 0 → ∀ H', Ext H H' → Q (.tuple [.slice none 0 0 0 1 false, .int .i64 (chkE m k l o)]) H')
    (h2 : chkE m k l o = 0 → ¬ (0 ≤ b ∧ b < (m.toNat * k.toNat : Nat)) → ∀ H', Ext H H' → Q (.tuple [.slice none 0 0 0 1 false, .int .i64 2]) H')
    (h12 : chkE m k l o = 0 → (0 ≤ b ∧ b < (m.toNat * k.toNat : Nat)) → lostS m.toNat k.toNat (sickS m k l).1 (coldS m k l o).1 b.toNat = true → ∀ H', Ext H H' → Q (.tuple [.slice none 0 0 0 1 false, .int .i64 12]) H')
    (hex : chkE m k l o = 0 → (0 ≤ b ∧ b < (m.toNat * k.toNat : Nat)) → lostS m.toNat k.toNat (sickS m k l).1 (coldS m k l o).1 b.toNat = false → ∃ j, j ≤ 25 ∧ (chP (fitK m.toNat k.toNat (m.toNat * k.toNat) (sickS m k l).1 (coldS m k l o).1 b.toNat) (freeS (m.toNat * k.toNat) (sickS m k l).1 (coldS m k l o).1 b.toNat) j 0 none').2 = true)
    (hq : chkE m k l o = 0 → (0 ≤ b ∧ b < (m.toNat * k.toNat : Nat)) → lostS m.toNat k.toNat (sickS m k l).1 (coldS m k l o).1 b.toNat = false → ∀ j, j ≤ 25 → (∀ i, i < j → (chP (fitK m.toNat k.toNat (m.toNat * k.toNat) (sickS m k l).1 (coldS m k l o).1 b.toNat) (freeS (m.toNat * k.toNat) (sickS m k l).1 (coldS m k l o).1 b.toNat) i 0 none').2 = false) →
      (chP (fitK m.toNat k.toNat (m.toNat * k.toNat) (sickS m k l).1 (coldS m k l o).1 b.toNat) (freeS (m.toNat * k.toNat) (sickS m k l).1 (coldS m k l o).1 b.toNat) j 0 none').2 = true → ∀ v' H', OwnN H.length H' v' (num (chP (fitK m.toNat k.toNat (m.toNat * k.toNat) (sickS m k l).1 (coldS m k l o).1 b.toNat) (freeS (m.toNat * k.toNat) (sickS m k l).1 (coldS m k l o).1 b.toNat) j 0 none').1) → Ext H H' → Q (.tuple [v', .int .i64 0]) H') :
    AC Try.prog 38 [.agg [.int .i64 m, .int .i64 k, u, w], .int .i64 b] H Q := by
  refine L_body 50 Try.func38 rfl rfl ?_
  obtain ⟨I, hI, hz⟩ := zeroT_some zt79'
  obtain ⟨J, hJ, hy⟩ := zeroT_some zt81'
  have hS0 := sickS_sup m k l
  refine L_reg [2, 3] (fun K hK => ?_)
  simp [AV.isU, acells]
  apply hK; clear hK K
  have b2 : (H ++ [AObj.row [.int .i64 m, .int .i64 k, u, w] 0 0 false, AObj.row [.int .i64 b] 0 0 false])[H.length]? = some (.row [.int .i64 m, .int .i64 k, u, w] 0 0 false) := by simp
  have b3 : (H ++ [AObj.row [.int .i64 m, .int .i64 k, u, w] 0 0 false, AObj.row [.int .i64 b] 0 0 false])[H.length + 1]? = some (.row [.int .i64 b] 0 0 false) := by simp
  have hL : (H ++ [AObj.row [.int .i64 m, .int .i64 k, u, w] 0 0 false, AObj.row [.int .i64 b] 0 0 false]).length = H.length + 2 := by simp
  have hE : Ext H (H ++ [AObj.row [.int .i64 m, .int .i64 k, u, w] 0 0 false, AObj.row [.int .i64 b] 0 0 false]) := .push _ _
  generalize H ++ [AObj.row [.int .i64 m, .int .i64 k, u, w] 0 0 false, AObj.row [.int .i64 b] 0 0 false] = H1 at b2 b3 hL hE ⊢
  have a2 := ldn4 b2 (ls_known hu) (ls_known hw)
  refine L_reg [3, 6, 7] (fun K hK => ?_)
  simp [okFn_low, a2]
  refine checked_q m k u w l o _ _ (hu.ext hE) (hw.ext hE) hl ho ?_
  simp [hJ, hy, new81F]
  apply hK; clear hK K
  have b6 : (H1 ++ [AObj.row (chkF m k l o) 0 0 false])[H.length + 2]? = some (.row (chkF m k l o) 0 0 false) := by rw [← hL]; simp
  have hE2 : Ext H1 (H1 ++ [AObj.row (chkF m k l o) 0 0 false]) := .push _ _
  rw [hL]
  replace b3 := hE2.row b3
  replace hE := hE.trans hE2
  clear a2 hE2 b2
  generalize H1 ++ [AObj.row (chkF m k l o) 0 0 false] = H2 at b3 b6 hE ⊢
  refine L_reg [3, 6, 7, 19] (fun K hK => ?_)
  simp
  apply hK; clear hK K
  by_cases hc0 : chkE m k l o = 0
  case neg =>
    refine L_true (by simp [hc0]) ?_
    refine L_reg [4, 5] (fun K hK => ?_)
    simp
    apply hK; clear hK K
    exact L_ret ⟨.inr rfl, _, rfl, he hc0 _ hE⟩
  replace h2 := h2 hc0
  replace h12 := h12 hc0
  replace hex := hex hc0
  replace hq := hq hc0
  clear he
  refine L_false (by simp [hc0]) ?_
  rw [chk_F hc0] at b6
  have hs := (chk_sides hc0).sd
  clear hc0
  generalize (sickS m k l).1 = S at *
  generalize (coldS m k l o).1 = Z at *
  generalize m.toNat = r at *
  generalize k.toNat = c at *
  obtain ⟨n, hn⟩ : ∃ n, r * c = n := ⟨_, rfl⟩
  rw [hn] at h2 h12 hex hq hS0
  have h25 := hs.le
  rw [hn] at h25
  have a6 := ldn_F0 b6
  have a3 : ld H2 (H.length + 1) 0 0 = some (.int .i64 b) := by rw [ld_row b3]; rfl
  refine L_reg [3, 6, 25] (fun K hK => ?_)
  simp [okFn_low, a6, a3]
  refine has_q hs hn b _ _ ?_
  simp
  apply hK; clear hK K
  by_cases hb : 0 ≤ b ∧ b < (n : Nat)
  case neg =>
    refine L_true (by simp; omega) ?_
    refine L_reg [4, 5] (fun K hK => ?_)
    simp
    apply hK; clear hK K
    exact L_ret ⟨.inr rfl, _, rfl, h2 hb _ hE⟩
  replace h12 := h12 hb
  replace hex := hex hb
  replace hq := hq hb
  obtain ⟨x, rfl⟩ : ∃ x : Nat, b = x := ⟨b.toNat, by omega⟩
  rw [Int.toNat_natCast] at h12 hex hq
  have hxn : x < n := by omega
  have hx25 : x < 25 := by omega
  refine L_false (by simp; omega) ?_
  have a7 := ldn_F b6
  refine L_reg [3, 6, 28] (fun K hK => ?_)
  simp [okFn_low, a7, a3]
  refine lost_q hs hn S Z x hxn _ _ ?_
  simp
  apply hK; clear hK K
  rw [← lostS] at *
  cases hlo : lostS r c S Z x with
  | true =>
    refine L_true (by simp) ?_
    refine L_reg [4, 5] (fun K hK => ?_)
    simp
    apply hK; clear hK K
    exact L_ret ⟨.inr rfl, _, rfl, h12 hlo _ hE⟩
  | false =>
  replace hex := hex hlo
  replace hq := hq hlo
  clear h12 h2
  refine L_false (by simp) ?_
  have a8 := ldn_F1 b6
  have ex : ∀ l : AH, Ext H2 (H2 ++ l) := fun l => .push _ _
  refine L_regR mixed (fun K hK => ?_)
  have hfin : K .normal [(3, .ptr (H.length + 1) 0 0), (6, .ptr (H.length + 2) 0 0), (8, .ptr H2.length 0 0)] (H2 ++ [AObj.row (bA (sub' (opn n Z) S)) 0 0 false]) := by
    apply hK; clear hK K
    have b8 : (H2 ++ [AObj.row (bA (sub' (opn n Z) S)) 0 0 false])[H2.length]? = some (.row (bA (sub' (opn n Z) S)) 0 0 false) := by simp
    have hl2 : H.length + 3 ≤ H2.length := by
      have := (List.getElem?_eq_some_iff.1 b6).1
      omega
    have hE2 := ex [AObj.row (bA (sub' (opn n Z) S)) 0 0 false]
    obtain ⟨y, hy8⟩ : ∃ y, H2.length = y := ⟨_, rfl⟩
    rw [hy8] at b8 hl2 ⊢
    replace b3 := hE2.row b3
    replace b6 := hE2.row b6
    replace hE := hE.trans hE2
    clear a3 a6 a7 a8 ex hE2
    generalize H2 ++ [AObj.row (bA (sub' (opn n Z) S)) 0 0 false] = H3 at b3 b6 b8 hE ⊢
    have a3 : ld H3 (H.length + 1) 0 0 = some (.int .i64 x) := by rw [ld_row b3]; rfl
    have hxi : (x : Int) < 25 := by omega
    have hst := st_b (v := false) b8 hx25
    refine L_reg [3, 6, 8] (fun K hK => ?_)
    simp [a3, hxi, hst]
    apply hK; clear hK K
    have c8 := get_set (o' := .row (bA (upd (sub' (opn n Z) S) x false)) 0 (min 0 x) false) b8
    have c3 : (H3.set y (.row (bA (upd (sub' (opn n Z) S) x false)) 0 (min 0 x) false))[H.length + 1]? = some (.row [.int .i64 x] 0 0 false) := by rw [List.getElem?_set_ne (by omega)]; exact b3
    have c6 : (H3.set y (.row (bA (upd (sub' (opn n Z) S) x false)) 0 (min 0 x) false))[H.length + 2]? = some (.row (fl r c S Z) 0 0 false) := by rw [List.getElem?_set_ne (by omega)]; exact b6
    have cE : Ext H (H3.set y (.row (bA (upd (sub' (opn n Z) S) x false)) 0 (min 0 x) false)) := hE.set _ (by omega)
    rw [Nat.zero_min] at c8 c3 c6 cE
    rw [← freeS] at c8 c3 c6 cE
    have e8 : ∀ G : AH → Prop, G (H3.set y (.row (bA (freeS n S Z x)) 0 0 false)) → G (H3.set y (.row (bA (upd (sub' (opn n Z) S) x false)) 0 0 false)) := fun G hG => hG
    clear b3 b6 b8 hE a3 hst
    show AWL _ _ _ _ (H3.set y (.row (bA (freeS n S Z x)) 0 0 false)) _
    generalize H3.set y (.row (bA (freeS n S Z x)) 0 0 false) = H4 at c8 c3 c6 cE ⊢
    clear e8
    refine L_reg [8, 9] (fun K hK => ?_)
    simp
    apply hK; clear hK K
    refine L_reg [8, 9, 10] (fun K hK => ?_)
    simp
    apply hK; clear hK K
    obtain ⟨j0, hj0, hj1⟩ := hex
    refine L_block (L_loopV [10] (fun q vs H' => ∃ i : Nat, q = j0 - i ∧ i ≤ j0 ∧ vs = [.int .i64 i] ∧ Ext H H' ∧ Ext H4 H' ∧ (∀ a, a < i → (chP (fitK r c n S Z x) (freeS n S Z x) a 0 none').2 = false)) _ [.int .i64 (0 : Nat)] rfl ⟨0, rfl, by omega, rfl, cE, .refl _, fun a ha => by omega⟩ ?_)
    rintro q _ H5 ⟨i, rfl, hi, rfl, hE, hE4, hno⟩
    refine L_block ?_
    have d8 := hE4.row c8
    have a8 := ldn_b d8
    have hcl : ∀ H', Ext H5 H' → ∀ T, (∀ b, T b = true → freeS n S Z x b = true) → ∀ Q : AV → AH → Prop, Q (.bool (fitK r c n S Z x T)) H' → AC Try.prog 81 (.agg (bA T) :: [.ptr (H.length + 2) 0 0, .ptr (H.length + 1) 0 0]) H' Q := fun H' hE' T hT Q hQ => fitK_q hs hn S Z hS0 x hxn _ _ 0 0 H' (hE'.row (hE4.row c6)) (hE'.row (hE4.row c3)) T Q hQ
    obtain ⟨A, hA⟩ : ∃ A, chP (fitK r c n S Z x) (freeS n S Z x) i 0 none' = A := ⟨_, rfl⟩
    have hch := choose_q 81 [.ptr (H.length + 2) 0 0, .ptr (H.length + 1) 0 0] (fitK r c n S Z x) (freeS n S Z x) (okFn_low (by omega) (by omega)) i 0 none' H5
    rw [hA] at hch
    refine L_reg [8, 9, 10, 11, 12] (fun K hK => ?_)
    simp [okFn_low, a8, bd79]
    refine hch _ (by omega) (by omega) (fun b hb => by simp [none'] at hb) hcl ?_
    simp [hI, hz, new79]
    apply hK; clear hK K
    have d11 : (H5 ++ [AObj.row (bA A.1) 0 0 false])[H5.length]? = some (.row (bA A.1) 0 0 false) := by simp
    have hE6 : Ext H5 (H5 ++ [AObj.row (bA A.1) 0 0 false]) := .push _ _
    have a11 := ldn_b d11
    refine L_reg [8, 9, 10, 11, 47] (fun K hK => ?_)
    simp
    apply hK; clear hK K
    cases hA2 : A.2 with
    | true =>
      refine L_true (by simp) ?_
      refine L_reg [4, 5] (fun K hK => ?_)
      simp [okFn_low, a11]
      refine list_ac _ _ _ (fun v H7 hN hE7 => ?_)
      have hO := hN.2
      simp
      apply hK; clear hK K
      refine L_ret ⟨.inr rfl, _, rfl, hq i (by omega) hno (by rw [hA]; exact hA2) v H7 ?_ ((hE.trans hE6).trans hE7)⟩
      rw [hA]
      refine ⟨hN.1, ?_⟩
      exact ownF_less hO (by have := hE.1; simp; omega)
    | false =>
      have hij : i ≠ j0 := by
        intro e
        rw [e] at hA
        rw [hA, hA2] at hj1
        cases hj1
      refine L_false (by simp) ?_
      refine L_reg [8, 9, 10] (fun K hK => ?_)
      simp [wrap_i64 (a := (i : Int) + 1) (by omega)]
      apply hK; clear hK K
      refine ⟨j0 - (i + 1), [.int .i64 (i + 1 : Nat)], by omega, by simp, i + 1, rfl, by omega, rfl, hE.trans hE6, hE4.trans hE6, fun a ha => ?_⟩
      by_cases hai : a = i
      · subst hai; rw [hA]; exact hA2
      · exact hno a (by omega)
  refine AWR_pair (x := 1) (y := 5) (ord := [0, 2, 3, 5, 1, 4, 6]) (by kernel_rfl) ?_ ?_
  · refine AWR_pair (x := 4) (y := 5) (ord := [0, 1, 2, 3, 5, 4, 6]) (by kernel_rfl) ?_ ?_
    · refine AWR_U [3, 6, 8] [false, false, false, true] rfl (by kernel_rfl) ?_
      simp [addE, okFn_low, a7]
      first | refine exX_mk (fun Q hQ => open_q hs hn S Z _ Q hQ) (.refl _) ?_ | refine exX_mk (fun Q hQ => open_q hs hn S Z _ Q hQ) (ex _) ?_ | refine exC_mk (fun Q hQ => open_q hs hn S Z _ Q hQ) ?_
      simp [okFn_low, a8]
      first | refine exX_mk (fun Q hQ => without_q _ _ _ Q hQ) (.refl _) ?_ | refine exX_mk (fun Q hQ => without_q _ _ _ Q hQ) (ex _) ?_ | refine exC_mk (fun Q hQ => without_q _ _ _ Q hQ) ?_
      simp [hI, hz, new79]
      exact hfin
    · refine AWR_U [3, 6, 8] [false, false, false, true, false] rfl (by kernel_rfl) ?_
      simp [addE, permL, okFn_low, a7]
      first | refine exX_mk (fun Q hQ => open_q hs hn S Z _ Q hQ) (.refl _) ?_ | refine exX_mk (fun Q hQ => open_q hs hn S Z _ Q hQ) (ex _) ?_ | refine exC_mk (fun Q hQ => open_q hs hn S Z _ Q hQ) ?_
      simp [okFn_low, a8, hI, hz, ex]
      first | refine exX_mk (fun Q hQ => without_q _ _ _ Q hQ) (.refl _) ?_ | refine exX_mk (fun Q hQ => without_q _ _ _ Q hQ) (ex _) ?_ | refine exC_mk (fun Q hQ => without_q _ _ _ Q hQ) ?_
      simp [new79]
      exact hfin
  · refine AWR_U [3, 6, 8] [true, false, true, false, false] rfl (by kernel_rfl) ?_
    simp [addE, permL, okFn_low, a7, a8, hI, hz, ex]
    first | refine exX_mk (fun Q hQ => open_q hs hn S Z _ Q hQ) (.refl _) ?_ | refine exX_mk (fun Q hQ => open_q hs hn S Z _ Q hQ) (ex _) ?_ | refine exC_mk (fun Q hQ => open_q hs hn S Z _ Q hQ) ?_
    simp [okFn_low]
    first | refine exX_mk (fun Q hQ => without_q _ _ _ Q hQ) (.refl _) ?_ | refine exX_mk (fun Q hQ => without_q _ _ _ Q hQ) (ex _) ?_ | refine exC_mk (fun Q hQ => without_q _ _ _ Q hQ) ?_
    simp [new79]
    exact hfin
end Go.Proofs.Ytfbpgnjeafadmaa.Fl
