/- Spread, Days, Outline, Idle, Proves and Least. -/
import Derived.Test.YtfbpgnjeafadmaaKee
import Derived.Test.YtfbpgnjeafadmaaDays
import Derived.Test.YtfbpgnjeafadmaaLDays
namespace Go.Proofs.Ytfbpgnjeafadmaa.Fl
open Go Go.Proofs.Ytfbpgnjeafadmaa Go.Proofs.Ytfbpgnjeafadmaa.AX
set_option maxRecDepth 100000

def nilS : AV := .slice none 0 0 0 1 false
theorem Spread_ac (m k : Int) (u w : AV) (l o : List Int) (H : AH) (Q : AV → AH → Prop) (hu : Ls H u l) (hw : Ls H w o) (hl : l.length ≤ 1000000) (ho : o.length ≤ 1000000)
    (he : chkE m k l o ≠ 0 → ∀ H', Ext H H' → Q (.tuple [.slice none 0 0 0 1 false, .int .i64 (chkE m k l o)]) H')
    (hq : chkE m k l o = 0 → ∀ v' H', OwnN H.length H' v' (num (sp m.toNat k.toNat 2 (opn (m.toNat * k.toNat) (coldS m k l o).1) (sickS m k l).1)) → Ext H H' → Q (.tuple [v', .int .i64 0]) H') :
    AC Try.prog 18 [.agg [.int .i64 m, .int .i64 k, u, w]] H Q := by
  refine L_body 17 Try.func18 rfl rfl ?_
  obtain ⟨J, hJ, hy⟩ := zeroT_some zt81'
  have hS0 := sickS_sup m k l
  refine L_reg [1] (fun K hK => ?_)
  simp [AV.isU, acells]
  apply hK; clear hK K
  have b2 : (H ++ [AObj.row [.int .i64 m, .int .i64 k, u, w] 0 0 false])[H.length]? = some (.row [.int .i64 m, .int .i64 k, u, w] 0 0 false) := by simp
  have hL : (H ++ [AObj.row [.int .i64 m, .int .i64 k, u, w] 0 0 false]).length = H.length + 1 := by simp
  have hE : Ext H (H ++ [AObj.row [.int .i64 m, .int .i64 k, u, w] 0 0 false]) := .push _ _
  generalize H ++ [AObj.row [.int .i64 m, .int .i64 k, u, w] 0 0 false] = H1 at b2 hL hE ⊢
  have a2 := ldn4 b2 (ls_known hu) (ls_known hw)
  refine L_reg [4, 5] (fun K hK => ?_)
  simp [okFn_low, a2]
  refine checked_q m k u w l o _ _ (hu.ext hE) (hw.ext hE) hl ho ?_
  simp [hJ, hy, new81F]
  apply hK; clear hK K
  have b6 : (H1 ++ [AObj.row (chkF m k l o) 0 0 false])[H.length + 1]? = some (.row (chkF m k l o) 0 0 false) := by rw [← hL]; simp
  have hE2 : Ext H1 (H1 ++ [AObj.row (chkF m k l o) 0 0 false]) := .push _ _
  rw [hL]
  replace hE := hE.trans hE2
  clear a2 hE2 b2
  generalize H1 ++ [AObj.row (chkF m k l o) 0 0 false] = H2 at b6 hE ⊢
  refine L_reg [4, 5, 12] (fun K hK => ?_)
  simp
  apply hK; clear hK K
  by_cases hc0 : chkE m k l o = 0
  case neg =>
    refine L_true (by simp [hc0]) ?_
    refine L_reg [2, 3] (fun K hK => ?_)
    simp
    apply hK; clear hK K
    exact L_ret ⟨.inr rfl, _, rfl, he hc0 _ hE⟩
  refine L_false (by simp [hc0]) ?_
  rw [chk_F hc0] at b6
  have hs := (chk_sides hc0).sd
  have a6 := ldn_F b6
  refine L_reg [2, 3] (fun K hK => ?_)
  simp [okFn_low, a6]
  refine spread_q hs rfl _ _ hS0 _ _ ?_
  simp [okFn_low]
  refine list_ac _ _ _ (fun v H3 hN hE3 => ?_)
  simp
  apply hK; clear hK K
  refine L_ret ⟨.inr rfl, _, rfl, hq hc0 v H3 ⟨hN.1, ownF_less hN.2 (by have := hE.1; omega)⟩ (hE.trans hE3)⟩
theorem Check_ac (m k : Int) (u w : AV) (l o : List Int) (H : AH) (Q : AV → AH → Prop) (hu : Ls H u l) (hw : Ls H w o) (hl : l.length ≤ 1000000) (ho : o.length ≤ 1000000)
    (hq : Q (.int .i64 (chkE m k l o)) H) : AC Try.prog 25 [.agg [.int .i64 m, .int .i64 k, u, w]] H Q := by
  refine AC.quiet (belB_int _ _ _ _) (fun Q hq => ?_) Q hq
  refine L_body 11 Try.func25 rfl rfl ?_
  obtain ⟨J, hJ, hy⟩ := zeroT_some zt81'
  refine L_reg [1] (fun K hK => ?_)
  simp [AV.isU, acells]
  apply hK; clear hK K
  have b2 : (H ++ [AObj.row [.int .i64 m, .int .i64 k, u, w] 0 0 false])[H.length]? = some (.row [.int .i64 m, .int .i64 k, u, w] 0 0 false) := by simp
  have hE : Ext H (H ++ [AObj.row [.int .i64 m, .int .i64 k, u, w] 0 0 false]) := .push _ _
  generalize H ++ [AObj.row [.int .i64 m, .int .i64 k, u, w] 0 0 false] = H1 at b2 hE ⊢
  have a2 := ldn4 b2 (ls_known hu) (ls_known hw)
  refine L_reg [4] (fun K hK => ?_)
  simp [okFn_low, a2]
  refine checked_q m k u w l o _ _ (hu.ext hE) (hw.ext hE) hl ho ?_
  simp [hJ, hy, new81F]
  apply hK; clear hK K
  refine L_reg [2] (fun K hK => ?_)
  simp
  apply hK; clear hK K
  exact L_ret ⟨.inr rfl, _, rfl, hq _ (hE.trans (.push _ _))⟩
theorem Days_ac (m k : Int) (u w : AV) (l o : List Int) (H : AH) (Q : AV → AH → Prop) (hu : Ls H u l) (hw : Ls H w o) (hl : l.length ≤ 1000000) (ho : o.length ≤ 1000000)
    (he : chkE m k l o ≠ 0 → ∀ H', Ext H H' → Q (.tuple [.slice none 0 0 0 1 false, .int .i64 (chkE m k l o)]) H')
    (hq : chkE m k l o = 0 → ∀ v' H', Ls H' v' (iL (m.toNat * k.toNat) (day m.toNat k.toNat (opn (m.toNat * k.toNat) (coldS m k l o).1) (sickS m k l).1)) → Ext H H' → Q (.tuple [v', .int .i64 0]) H') :
    AC Try.prog 20 [.agg [.int .i64 m, .int .i64 k, u, w]] H Q := by
  refine L_body 21 Try.func20 rfl rfl ?_
  obtain ⟨J, hJ, hy⟩ := zeroT_some zt81'
  obtain ⟨X, hX, hx⟩ := zeroT_some zt87'
  have hS0 := sickS_sup m k l
  refine L_reg [1] (fun K hK => ?_)
  simp [AV.isU, acells]
  apply hK; clear hK K
  have b2 : (H ++ [AObj.row [.int .i64 m, .int .i64 k, u, w] 0 0 false])[H.length]? = some (.row [.int .i64 m, .int .i64 k, u, w] 0 0 false) := by simp
  have hL : (H ++ [AObj.row [.int .i64 m, .int .i64 k, u, w] 0 0 false]).length = H.length + 1 := by simp
  have hE : Ext H (H ++ [AObj.row [.int .i64 m, .int .i64 k, u, w] 0 0 false]) := .push _ _
  generalize H ++ [AObj.row [.int .i64 m, .int .i64 k, u, w] 0 0 false] = H1 at b2 hL hE ⊢
  have a2 := ldn4 b2 (ls_known hu) (ls_known hw)
  refine L_reg [4, 5] (fun K hK => ?_)
  simp [okFn_low, a2]
  refine checked_q m k u w l o _ _ (hu.ext hE) (hw.ext hE) hl ho ?_
  simp [hJ, hy, new81F]
  apply hK; clear hK K
  have b6 : (H1 ++ [AObj.row (chkF m k l o) 0 0 false])[H.length + 1]? = some (.row (chkF m k l o) 0 0 false) := by rw [← hL]; simp
  have hE2 : Ext H1 (H1 ++ [AObj.row (chkF m k l o) 0 0 false]) := .push _ _
  rw [hL]
  replace hE := hE.trans hE2
  clear a2 hE2 b2
  generalize H1 ++ [AObj.row (chkF m k l o) 0 0 false] = H2 at b6 hE ⊢
  refine L_reg [4, 5, 13] (fun K hK => ?_)
  simp
  apply hK; clear hK K
  by_cases hc0 : chkE m k l o = 0
  case neg =>
    refine L_true (by simp [hc0]) ?_
    refine L_reg [2, 3] (fun K hK => ?_)
    simp
    apply hK; clear hK K
    exact L_ret ⟨.inr rfl, _, rfl, he hc0 _ hE⟩
  refine L_false (by simp [hc0]) ?_
  rw [chk_F hc0] at b6
  have hs := (chk_sides hc0).sd
  replace hq := hq hc0
  clear he hc0
  generalize (sickS m k l).1 = S at *
  generalize (coldS m k l o).1 = Z at *
  generalize m.toNat = r at *
  generalize k.toNat = c at *
  obtain ⟨n, hn⟩ : ∃ n, r * c = n := ⟨_, rfl⟩
  have h25 := hs.le
  rw [hn] at hq h25 hS0
  have a6 := ldn_F b6
  have hnew : ∀ (H3 : AH) (f : Nat → Int), storeV Try.prog 87 (H3 ++ [AObj.row (iA fun _ => 0) 0 0 false]) (.ptr H3.length 0 0) (.agg (iA f)) = some (none, H3 ++ [AObj.row (iA f) 0 0 false]) := fun H3 f => by
    rw [st_I (f := fun _ => 0) (s := 0) (by simp)]; simp
  refine L_reg [4, 6] (fun K hK => ?_)
  simp [okFn_low, a6]
  refine days_ac hs hn S Z hS0 _ _ (fun H3 hE3 => ?_)
  simp [hX, hx, hnew]
  apply hK; clear hK K
  have d6 : (H3 ++ [AObj.row (iA (day r c (opn n Z) S)) 0 0 false])[H3.length]? = some (.row (iA (day r c (opn n Z) S)) 0 0 false) := by simp
  have hE4 : Ext H3 (H3 ++ [AObj.row (iA (day r c (opn n Z) S)) 0 0 false]) := .push _ _
  replace b6 := hE4.row (hE3.row b6)
  replace hE := (hE.trans hE3).trans hE4
  clear hE3 hE4 a6
  generalize day r c (opn n Z) S = f at *
  obtain ⟨p, hp⟩ : ∃ p, H3.length = p := ⟨_, rfl⟩
  rw [hp] at d6 ⊢
  generalize H3 ++ [AObj.row (iA f) 0 0 false] = H4 at b6 d6 hE ⊢
  have a0 := ldn_F0 b6
  have hli : (n : Int) ≤ 25 := by omega
  refine L_reg [2, 3] (fun K hK => ?_)
  simp [okFn_low, a0]
  refine size_q hs hn _ _ ?_
  simp [noSlice ar87, slice_arr (k := .i64) (m := n) ar87 (by decide) (by decide) d6 (by simp [iA_len]) (iA_known f) h25]
  apply hK; clear hK K
  refine L_ret ⟨.inr rfl, _, rfl, hq _ H4 ?_ hE⟩
  have e : (iL n f).length = n := iL_len n f
  refine ⟨some p, 0, 0, 1, false, by simp [iL_len], fun i hi => ⟨p, rfl, rfl, ?_⟩⟩
  rw [e] at hi
  rw [Nat.zero_add, ld_i d6 (by omega)]
  congr 2
  have := iL_get f hi
  rw [List.getElem?_eq_getElem (by rw [e]; exact hi)] at this
  exact (Option.some.inj this).symm
end Go.Proofs.Ytfbpgnjeafadmaa.Fl
