/- Fields, stores that are checked, and their spread. -/
import Derived.Test.YtfbpgnjeafadmaaFlo6
namespace Go.Proofs.Ytfbpgnjeafadmaa.Fl
open Go Go.Proofs.Ytfbpgnjeafadmaa Go.Proofs.Ytfbpgnjeafadmaa.AX

set_option maxRecDepth 100000
def opn (n : Nat) (Z : Nat → Bool) : Nat → Bool := sub' (lt' n) Z
theorem open_q {r c n : Nat} (hs : Sd r c) (hn : r * c = n) (S Z : Nat → Bool) (H : AH) (Q : AV → AH → Prop) (h : Q (.agg (bA (opn n Z))) H) : AC Try.prog 79 [.agg (fl r c S Z)] H Q := by
  refine AC.quiet (belB_m _ _) (fun Q h => ?_) Q h
  refine L_body 9 Try.func79 rfl rfl ?_
  obtain ⟨I, hI, hz⟩ := zeroT_some zt79'
  refine L_reg [1, 2] (fun K hK => ?_)
  simp [AV.isU, acells, hI, hz]
  apply hK; clear hK K
  have h1 : (H ++ [AObj.row (fl r c S Z) 0 0 false, AObj.row (bA none') 0 0 false])[H.length]? = some (.row (fl r c S Z) 0 0 false) := by simp
  have h2 : (H ++ [AObj.row (fl r c S Z) 0 0 false, AObj.row (bA none') 0 0 false])[H.length + 1]? = some (.row (bA none') 0 0 false) := by simp
  have hE : Ext H (H ++ [AObj.row (fl r c S Z) 0 0 false, AObj.row (bA none') 0 0 false]) := .push _ _
  generalize H ++ [AObj.row (fl r c S Z) 0 0 false, AObj.row (bA none') 0 0 false] = H1 at h1 h2 hE ⊢
  have a1 := ldn_F0 h1
  have a2 := ldn_F2 h1
  have hst := st_m (T := opn n Z) h2
  refine L_regZ mixed [H.length + 1] [0, 0, 0, 0, 1, 0] [] [2] (by kernel_rfl) (fun K hK => ?_)
  simp [okFn_low, a1]
  refine exX_mk (fun Q hQ => all_q hs hn _ Q hQ) (.refl _) ?_
  simp [okFn_low, a2]
  refine exX_mk (fun Q hQ => without_q _ _ _ Q hQ) (.refl _) ?_
  rw [← opn]
  simp [hst]
  apply hK; clear hK K
  refine L_ret ⟨.inr rfl, _, res_cell rfl ?_, h _ (hE.set _ (by omega))⟩
  simp [ldn_b (get_set h2)]
theorem spread_q {r c n : Nat} (hs : Sd r c) (hn : r * c = n) (S Z : Nat → Bool) (hS : ∀ b, S b = true → b < n) (H : AH) (Q : AV → AH → Prop) (h : Q (.agg (bA (sp r c 2 (opn n Z) S))) H) : AC Try.prog 54 [.agg (fl r c S Z)] H Q := by
  refine AC.quiet (belB_m _ _) (fun Q h => ?_) Q h
  refine L_body 10 Try.func54 rfl rfl ?_
  obtain ⟨I, hI, hz⟩ := zeroT_some zt79'
  refine L_reg [1, 2] (fun K hK => ?_)
  simp [AV.isU, acells, hI, hz]
  apply hK; clear hK K
  have h1 : (H ++ [AObj.row (fl r c S Z) 0 0 false, AObj.row (bA none') 0 0 false])[H.length]? = some (.row (fl r c S Z) 0 0 false) := by simp
  have h2 : (H ++ [AObj.row (fl r c S Z) 0 0 false, AObj.row (bA none') 0 0 false])[H.length + 1]? = some (.row (bA none') 0 0 false) := by simp
  have hE : Ext H (H ++ [AObj.row (fl r c S Z) 0 0 false, AObj.row (bA none') 0 0 false]) := .push _ _
  generalize H ++ [AObj.row (fl r c S Z) 0 0 false, AObj.row (bA none') 0 0 false] = H1 at h1 h2 hE ⊢
  have a1 := ldn_F0 h1
  have a2 := ldn_F1 h1
  have a3 := ldn_F h1
  have hst := st_m (T := sp r c 2 (opn n Z) S) h2
  refine L_regZ mixed [H.length + 1] [0, 1, 0, 1, 0, 0, 0] [] [2] (by kernel_rfl) (fun K hK => ?_)
  simp [okFn_low, a1, a2, a3]
  refine exX_mk (fun Q hQ => open_q hs hn S Z _ Q hQ) (.refl _) ?_
  simp [okFn_low]
  refine exX_mk (fun Q hQ => reached_q hs hn 2 S _ hS _ Q hQ) (.refl _) ?_
  simp [hst]
  apply hK; clear hK K
  refine L_ret ⟨.inr rfl, _, res_cell rfl ?_, h _ (hE.set _ (by omega))⟩
  simp [ldn_b (get_set h2)]

def okSides (m n : Int) : Prop := (1 ≤ m ∧ m ≤ 5) ∧ 1 ≤ n ∧ n ≤ 5
instance (m n : Int) : Decidable (okSides m n) := by unfold okSides; infer_instance
theorem okSides.sd {m n : Int} (h : okSides m n) : Sd m.toNat n.toNat := by
  obtain ⟨⟨h1, h2⟩, h3, h4⟩ := h
  exact ⟨by omega, by omega, by omega, by omega⟩
def sickS (m n : Int) (l : List Int) : (Nat → Bool) × Int := colS (m.toNat * n.toNat) none' none' l
def coldS (m n : Int) (l o : List Int) : (Nat → Bool) × Int := colS (m.toNat * n.toNat) (sickS m n l).1 none' o
/-- The error of a store. -/
def chkE (m n : Int) (l o : List Int) : Int := if okSides m n then (if (sickS m n l).2 ≠ 0 then (sickS m n l).2 else (coldS m n l o).2) else 1
def chkF (m n : Int) (l o : List Int) : List AV := if chkE m n l o = 0 then fl m.toNat n.toNat (sickS m n l).1 (coldS m n l o).1 else fl 0 0 none' none'
theorem chkF_belB (N : Nat) (m n : Int) (l o : List Int) (k : IntKind) (e : Int) : belB N 4 (.tuple [.agg (chkF m n l o), .int k e]) = true := by
  unfold chkF
  split <;> exact belB_fe ..
theorem chk_sick {m n : Int} {l o : List Int} (hs : okSides m n) (h0 : (sickS m n l).2 ≠ 0) : chkE m n l o = (sickS m n l).2 ∧ chkF m n l o = fl 0 0 none' none' := by
  have h1 : chkE m n l o = (sickS m n l).2 := by unfold chkE; rw [if_pos hs, if_pos h0]
  exact ⟨h1, by unfold chkF; rw [h1, if_neg h0]⟩
theorem chk_cold {m n : Int} {l o : List Int} (hs : okSides m n) (h0 : (sickS m n l).2 = 0) (h2 : (coldS m n l o).2 ≠ 0) : chkE m n l o = (coldS m n l o).2 ∧ chkF m n l o = fl 0 0 none' none' := by
  have h1 : chkE m n l o = (coldS m n l o).2 := by unfold chkE; rw [if_pos hs, if_neg (by simp [h0])]
  exact ⟨h1, by unfold chkF; rw [h1, if_neg h2]⟩
theorem chk_ok {m n : Int} {l o : List Int} (hs : okSides m n) (h0 : (sickS m n l).2 = 0) (h2 : (coldS m n l o).2 = 0) : chkE m n l o = 0 ∧ chkF m n l o = fl m.toNat n.toNat (sickS m n l).1 (coldS m n l o).1 := by
  have h1 : chkE m n l o = 0 := by unfold chkE; rw [if_pos hs, if_neg (by simp [h0])]; exact h2
  exact ⟨h1, by unfold chkF; rw [if_pos h1]⟩
theorem checked_q (m n : Int) (u w : AV) (l o : List Int) (H : AH) (Q : AV → AH → Prop) (hu : Ls H u l) (hw : Ls H w o) (hl : l.length ≤ 1000000) (ho : o.length ≤ 1000000) (h : Q (.tuple [.agg (chkF m n l o), .int .i64 (chkE m n l o)]) H) : AC Try.prog 53 [.agg [.int .i64 m, .int .i64 n, u, w]] H Q := by
  refine AC.quiet (chkF_belB _ _ _ _ _ _ _) (fun Q h => ?_) Q h
  obtain ⟨ru, ou, vu, su, fu, hue, -⟩ := id hu
  obtain ⟨rw', ow, vw, sw, fw, hwe, -⟩ := id hw
  refine L_body 51 Try.func53 rfl rfl ?_
  obtain ⟨I, hI, hz⟩ := zeroT_some zt81'
  obtain ⟨J, hJ, hy⟩ := zeroT_some zt77
  obtain ⟨X, hX, hx⟩ := zeroT_some zt79'
  refine L_reg [1, 2] (fun K hK => ?_)
  simp [AV.isU, acells, hI, hz]
  apply hK; clear hK K
  have h1 : (H ++ [AObj.row [.int .i64 m, .int .i64 n, u, w] 0 0 false, AObj.row (fl 0 0 none' none') 0 0 false])[H.length]? = some (.row [.int .i64 m, .int .i64 n, u, w] 0 0 false) := by simp
  have h2 : (H ++ [AObj.row [.int .i64 m, .int .i64 n, u, w] 0 0 false, AObj.row (fl 0 0 none' none') 0 0 false])[H.length + 1]? = some (.row (fl 0 0 none' none') 0 0 false) := by simp
  have hE : Ext H (H ++ [AObj.row [.int .i64 m, .int .i64 n, u, w] 0 0 false, AObj.row (fl 0 0 none' none') 0 0 false]) := .push _ _
  generalize H ++ [AObj.row [.int .i64 m, .int .i64 n, u, w] 0 0 false, AObj.row (fl 0 0 none' none') 0 0 false] = H1 at h1 h2 hE ⊢
  have a0 : ld H1 H.length 0 0 = some (.int .i64 m) := by rw [ld_row h1]; rfl
  have a1 : ld H1 H.length 1 0 = some (.int .i64 n) := by rw [ld_row h1]; rfl
  have a2 : ld H1 H.length 2 0 = some u := by rw [ld_row h1, hue]; rfl
  have a3 : ld H1 H.length 3 0 = some w := by rw [ld_row h1, hwe]; rfl
  refine L_reg [1, 2, 4] (fun K hK => ?_)
  simp [okFn_low, a0, a1]
  refine checkSides_q m n _ _ ?_
  simp
  apply hK; clear hK K
  have hst0 := st_F (S' := none') (Z' := none') (r' := 0) (c' := 0) h2
  refine L_reg [1, 2, 4, 15] (fun K hK => ?_)
  simp
  apply hK; clear hK K
  by_cases hsd : okSides m n
  case neg =>
    have he : chkE m n l o = 1 := by unfold chkE; rw [if_neg hsd]
    have hF : chkF m n l o = fl 0 0 none' none' := by unfold chkF; rw [if_neg (by rw [he]; decide)]
    rw [he, hF] at h
    have hsd2 : ¬ ((1 ≤ m ∧ m ≤ 5) ∧ 1 ≤ n ∧ n ≤ 5) := hsd
    refine L_true (by simp [hsd2]) ?_
    refine L_reg [2, 3] (fun K hK => ?_)
    simp [bd81z, hst0, hsd2]
    apply hK; clear hK K
    refine L_ret ⟨.inr rfl, _, res_cell_tmp rfl ?_ rfl, h _ (hE.set _ (by omega))⟩
    simp [ldn_F (get_set h2)]
  have hsd2 : (1 ≤ m ∧ m ≤ 5) ∧ 1 ≤ n ∧ n ≤ 5 := hsd
  have hs := hsd.sd
  obtain ⟨r, hr⟩ : ∃ r : Nat, m = r := ⟨m.toNat, by omega⟩
  obtain ⟨c, hc⟩ : ∃ c : Nat, n = c := ⟨n.toNat, by omega⟩
  refine L_false (by simp [hsd2]) ?_
  have hsick : sickS m n l = colS (r * c) none' none' l := by unfold sickS; rw [hr, hc, Int.toNat_natCast, Int.toNat_natCast]
  have hcold : coldS m n l o = colS (r * c) (sickS m n l).1 none' o := by unfold coldS; rw [hr, hc, Int.toNat_natCast, Int.toNat_natCast]
  rw [hr, hc, Int.toNat_natCast, Int.toNat_natCast] at hs
  rw [hr] at a0
  rw [hc] at a1
  have hst1 : storeV Try.prog 77 (H1 ++ [AObj.row [.int .i64 0, .int .i64 0] 0 0 false]) (.ptr H1.length 0 0) (.agg [.int .i64 r, .int .i64 c]) = some (none, H1 ++ [AObj.row [.int .i64 r, .int .i64 c] 0 0 false]) := by
    rw [store_agg ag77 (c := [.int .i64 0, .int .i64 0]) (s := 0) (by simp) (by decide) rfl (by simp) rfl (by simp [AV.one])]
    simp
  refine L_reg [1, 2, 5] (fun K hK => ?_)
  simp [a0, a1, hJ, hy, hst1]
  apply hK; clear hK K
  have hL1 : (H1 ++ [AObj.row [.int .i64 r, .int .i64 c] 0 0 false]).length = H1.length + 1 := by simp
  have h5 : (H1 ++ [AObj.row [.int .i64 r, .int .i64 c] 0 0 false])[H1.length]? = some (.row [.int .i64 r, .int .i64 c] 0 0 false) := by simp
  have hE2 : Ext H1 (H1 ++ [AObj.row [.int .i64 r, .int .i64 c] 0 0 false]) := .push _ _
  have hl2 : H.length + 2 ≤ H1.length := by
    have := (List.getElem?_eq_some_iff.1 h2).1
    omega
  obtain ⟨x5, hx5⟩ : ∃ x5, H1.length = x5 := ⟨_, rfl⟩
  rw [hx5] at h5 hL1 hl2 ⊢
  replace h1 := hE2.row h1
  replace h2 := hE2.row h2
  replace hE := hE.trans hE2
  clear a0 a1 a2 a3 hst0 hst1 hE2
  generalize H1 ++ [AObj.row [.int .i64 r, .int .i64 c] 0 0 false] = H2 at h1 h2 h5 hE hL1 ⊢
  have a2 : ld H2 H.length 2 0 = some u := by rw [ld_row h1, hue]; rfl
  have a5 := ldn_f h5
  obtain ⟨A, hA⟩ : ∃ A, colS (r * c) none' none' l = A := ⟨_, rfl⟩
  have hst1 : storeV Try.prog 79 (H2 ++ [AObj.row (bA none') 0 0 false]) (.ptr H2.length 0 0) (.agg (bA A.1)) = some (none, H2 ++ [AObj.row (bA A.1) 0 0 false]) := by
    rw [st_m (S := none') (s := 0) (by simp)]
    simp
  refine L_reg [1, 2, 5, 6, 7] (fun K hK => ?_)
  simp [okFn_low, a2, a5, bd79]
  refine collect_q hs rfl none' u l _ _ (hu.ext hE) hl ?_
  simp [hA, hX, hx, hst1]
  apply hK; clear hK K
  rw [hA] at hsick
  rw [hsick] at hcold
  have h6 : (H2 ++ [AObj.row (bA A.1) 0 0 false])[x5 + 1]? = some (.row (bA A.1) 0 0 false) := by rw [← hL1]; simp
  have hE2 : Ext H2 (H2 ++ [AObj.row (bA A.1) 0 0 false]) := .push _ _
  have hL2 : (H2 ++ [AObj.row (bA A.1) 0 0 false]).length = x5 + 2 := by simp [hL1]
  rw [hL1]
  replace h1 := hE2.row h1
  replace h2 := hE2.row h2
  replace h5 := hE2.row h5
  replace hE := hE.trans hE2
  clear a2 a5 hst1 hE2
  generalize H2 ++ [AObj.row (bA A.1) 0 0 false] = H3 at h1 h2 h5 h6 hE hL2 ⊢
  have hst0 := st_F (S' := none') (Z' := none') (r' := 0) (c' := 0) h2
  refine L_reg [1, 2, 5, 6, 7, 32] (fun K hK => ?_)
  simp
  apply hK; clear hK K
  by_cases hA0 : A.2 = 0
  case neg =>
    obtain ⟨h8, h9⟩ := chk_sick (o := o) hsd (by rw [hsick]; exact hA0)
    rw [h8, h9, hsick] at h
    refine L_true (by simp [hA0]) ?_
    refine L_reg [2, 3] (fun K hK => ?_)
    simp [bd81z, hst0]
    apply hK; clear hK K
    refine L_ret ⟨.inr rfl, _, res_cell_tmp rfl ?_ rfl, h _ (hE.set _ (by omega))⟩
    simp [ldn_F (get_set h2)]
  refine L_false (by simp [hA0]) ?_
  have a3 : ld H3 H.length 3 0 = some w := by rw [ld_row h1, hwe]; rfl
  have a5 := ldn_f h5
  have a6 := ldn_b h6
  obtain ⟨B, hB⟩ : ∃ B, colS (r * c) A.1 none' o = B := ⟨_, rfl⟩
  have hst1 : storeV Try.prog 79 (H3 ++ [AObj.row (bA none') 0 0 false]) (.ptr H3.length 0 0) (.agg (bA B.1)) = some (none, H3 ++ [AObj.row (bA B.1) 0 0 false]) := by
    rw [st_m (S := none') (s := 0) (by simp)]
    simp
  refine L_reg [2, 5, 6, 7, 8] (fun K hK => ?_)
  simp [okFn_low, a3, a5, a6]
  refine collect_q hs rfl A.1 w o _ _ (hw.ext hE) ho ?_
  simp [hB, hX, hx, hst1]
  apply hK; clear hK K
  rw [hB] at hcold
  have h8 : (H3 ++ [AObj.row (bA B.1) 0 0 false])[x5 + 2]? = some (.row (bA B.1) 0 0 false) := by rw [← hL2]; simp
  have hE2 : Ext H3 (H3 ++ [AObj.row (bA B.1) 0 0 false]) := .push _ _
  rw [hL2]
  replace h1 := hE2.row h1
  replace h2 := hE2.row h2
  replace h5 := hE2.row h5
  replace h6 := hE2.row h6
  replace hE := hE.trans hE2
  clear a3 a5 a6 hst1 hE2 hst0
  generalize H3 ++ [AObj.row (bA B.1) 0 0 false] = H4 at h1 h2 h5 h6 h8 hE ⊢
  refine L_reg [2, 5, 6, 7, 8, 44] (fun K hK => ?_)
  simp
  apply hK; clear hK K
  by_cases hB0 : B.2 = 0
  case neg =>
    obtain ⟨h9, h10⟩ := chk_cold (o := o) hsd (by rw [hsick]; exact hA0) (by rw [hcold]; exact hB0)
    rw [h9, h10, hcold] at h
    have hst0 := st_F (S' := none') (Z' := none') (r' := 0) (c' := 0) h2
    refine L_true (by simp [hB0]) ?_
    refine L_reg [2, 3] (fun K hK => ?_)
    simp [bd81z, hst0]
    apply hK; clear hK K
    refine L_ret ⟨.inr rfl, _, res_cell_tmp rfl ?_ rfl, h _ (hE.set _ (by omega))⟩
    simp [ldn_F (get_set h2)]
  obtain ⟨h9, h10⟩ := chk_ok (o := o) hsd (by rw [hsick]; exact hA0) (by rw [hcold]; exact hB0)
  rw [h9, h10, hcold, hsick, hr, hc, Int.toNat_natCast, Int.toNat_natCast] at h
  refine L_false (by simp [hB0]) ?_
  have a5 := ldn_f h5
  have a6 := ldn_b h6
  have a8 := ldn_b h8
  have hst0 := st_F (S' := A.1) (Z' := B.1) (r' := r) (c' := c) h2
  refine L_reg [2, 3] (fun K hK => ?_)
  simp [a5, a6, a8, bd81, hst0]
  apply hK; clear hK K
  refine L_ret ⟨.inr rfl, _, res_cell_tmp rfl ?_ rfl, h _ (hE.set _ (by omega))⟩
  simp [ldn_F (get_set h2)]
end Go.Proofs.Ytfbpgnjeafadmaa.Fl
