/- Join, the reference's way. -/
import Derived.Test.YtjaefngmidllgaaJo
namespace Go.Proofs.Ytjaefngmidllgaa.St
open Go Go.Proofs.Ytjaefngmidllgaa Go.Proofs.Ytjaefngmidllgaa.AX
set_option maxRecDepth 100000
set_option linter.unusedVariables false
theorem dv_il (L : List Nat) : dv (il L) = dv L := by
  refine dv_congr _ _ (il_len L) fun x y hx hy => ?_
  rw [il_len] at hx hy
  rw [il_get hx, il_get hy]
  omega
theorem cell_il {H : AH} {r ver t : Nat} {L : List Nat} (hr : H[r]? = some (.row ((il L).map (.int .i64)) ver t false)) {j : Nat} (hj : j < L.length) : ld H r j ver = some (.int .i64 (ga L j : Nat)) := by
  rw [ld_row hr, ga_lt hj]
  simp [il, hj, known]
theorem set_il {H : AH} {r ver t : Nat} {L : List Nat} (hr : H[r]? = some (.row ((il L).map (.int .i64)) ver t false)) {j : Nat} (hj : j < L.length) (x : Nat) : storeV Try.prog 3 H (.ptr r j ver) (.int .i64 (x : Nat)) = some (none, H.set r (.row ((il (L.set j x)).map (.int .i64)) ver (min t j) false)) := by
  have := store_row (P := Try.prog) (u := 3) (p := j) sc3 (x := .int .i64 (x : Nat)) (y := .int .i64 (ga L j : Nat)) rfl hr (by rw [List.getElem?_map, il, List.getElem?_map, List.getElem?_eq_getElem hj, ga_lt hj]; rfl)
  rw [this, ← List.map_set (f := AV.int .i64), il_set]
section
variable {a b : List Nat} (ha : OkD a) (hb : OkD b) (hab : a.length = b.length) (u v : AV) (H : AH) (hu : Ls H u (il a)) (hv : Ls H v (il b))
include ha hb hab hu hv
set_option maxHeartbeats 2000000 in
theorem JoinR_ok (Q : AV → AH → Prop) (h : ∀ v' H', OwnF H.length H' v' ((il (dv (JL a b a.length))).map (.int .i64)) → Ext H H' → Q (.tuple [v', .int .i64 0]) H') : AC Try.prog 32 [u, v] H Q := by
  rw [join_same rfl hab.symm] at h
  have hpe := prE_ok ha hb hab
  have h9 := ha.len
  have hul := ils_len hu
  refine L_body 83 Try.func32 rfl rfl ?_
  refine L_reg [0, 1] (fun K hK => ?_)
  simp
  apply hK; clear hK K
  refine L_reg [0, 1, 6] (fun K hK => ?_)
  simp [okFn_low]
  refine pair_q 72 (.inr rfl) _ _ u v (il9 ha) (il9 hb) _ hu hv _ ?_
  simp [hpe]
  apply hK; clear hK K
  refine L_reg [0, 1, 6, 16] (fun K hK => ?_)
  simp
  apply hK; clear hK K
  refine L_false rfl ?_
  obtain ⟨n, hn⟩ : ∃ n, a.length = n := ⟨_, rfl⟩
  rw [hn] at h hul h9
  refine L_reg [0, 1, 7] (fun K hK => ?_)
  simp [hul, make_z elz22 (show n ≤ 16777216 by omega)]
  apply hK; clear hK K
  have hE : Ext H (H ++ [AObj.row (List.replicate n (AV.int .i64 0)) 0 0 false]) := .push _ _
  have hr : (H ++ [AObj.row (List.replicate n (AV.int .i64 0)) 0 0 false])[H.length]? = some (.row ((il (List.range 0 ++ List.replicate (n - 0) 0)).map (.int .i64)) 0 0 false) := by simp [il]
  generalize H ++ [AObj.row (List.replicate n (AV.int .i64 0)) 0 0 false] = H1 at hE hr ⊢
  refine L_reg [0, 1, 7, 8] (fun K hK => ?_)
  simp
  apply hK; clear hK K
  refine L_block (L_loopV [8] (fun q vs H' => ∃ (i t : Nat), q = n - i ∧ i ≤ n ∧ vs = [.int .i64 i] ∧ Ext H H' ∧ H'[H.length]? = some (.row ((il (List.range i ++ List.replicate (n - i) 0)).map (.int .i64)) 0 t false)) _ [.int .i64 (0 : Nat)] rfl ⟨0, 0, rfl, by omega, rfl, hE, hr⟩ ?_)
  clear hE hr H1
  rintro q _ H1 ⟨i, t, rfl, hi, rfl, hE, hr⟩
  have hul := ils_len (hu.ext hE)
  rw [hn] at hul
  refine L_reg [0, 1, 7, 8, 24] (fun K hK => ?_)
  simp [hul]
  apply hK; clear hK K
  refine L_dec (i < n) (by simp) (fun hlt => ?_) (fun hge => L_exit ?_)
  · refine L_block ?_
    have hst := set_il hr (j := i) (by simp; omega) i
    have hset : (List.range i ++ List.replicate (n - i) 0).set i i = List.range (i + 1) ++ List.replicate (n - (i + 1)) 0 := by
      rw [List.set_append, if_neg (by simp), List.length_range, Nat.sub_self, show n - i = (n - (i + 1)) + 1 by omega, List.replicate_succ, List.set_cons_zero, List.range_succ]
      simp
    rw [hset] at hst
    refine L_reg [0, 1, 7, 8] (fun K hK => ?_)
    simp [hlt, hst]
    apply hK; clear hK K
    refine L_reg [0, 1, 7, 8] (fun K hK => ?_)
    simp [wrap_i64 (a := (i : Int) + 1) (by omega)]
    apply hK; clear hK K
    exact ⟨n - (i + 1), [.int .i64 (i + 1 : Nat)], by omega, by simp, i + 1, _, rfl, by omega, rfl, hE.set _ (Nat.le_refl _), get_set hr⟩
  have e : i = n := by omega
  subst e
  rw [Nat.sub_self, List.replicate_zero, List.append_nil] at hr
  refine L_reg [0, 1, 7, 9] (fun K hK => ?_)
  simp
  apply hK; clear hK K
  refine L_block (L_loopV [9] (fun q vs H' => ∃ (m t : Nat), q = i - m ∧ m ≤ i ∧ vs = [.int .i64 m] ∧ Ext H H' ∧ H'[H.length]? = some (.row ((il (RL a b i m)).map (.int .i64)) 0 t false)) _ [.int .i64 (0 : Nat)] rfl ⟨0, t, rfl, by omega, rfl, hE, hr⟩ ?_)
  clear hE hr hul hge hi H1
  rintro q _ H1 ⟨m, t, rfl, hm, rfl, hE, hr⟩
  have hul := ils_len (hu.ext hE)
  rw [hn] at hul
  refine L_reg [0, 1, 7, 9, 34] (fun K hK => ?_)
  simp [hul]
  apply hK; clear hK K
  refine L_dec (m < i) (by simp) (fun hlt => ?_) (fun hge => L_exit ?_)
  · refine L_block ?_
    obtain ⟨L0, hL0⟩ : ∃ L0, RL a b i m = L0 := ⟨_, rfl⟩
    have hl0 : L0.length = i := by rw [← hL0]; exact RL_len m
    have hnx : RL a b i (m + 1) = rndR a b i i L0 := by rw [← hL0]; rfl
    rw [hL0] at hr
    refine L_reg [0, 1, 7, 9, 10] (fun K hK => ?_)
    simp
    apply hK; clear hK K
    refine L_block (L_loopV [10] (fun q vs H' => ∃ (x t : Nat), q = i - x ∧ x ≤ i ∧ vs = [.int .i64 x] ∧ Ext H H' ∧ H'[H.length]? = some (.row ((il (rndR a b i x L0)).map (.int .i64)) 0 t false)) _ [.int .i64 (0 : Nat)] rfl ⟨0, t, rfl, by omega, rfl, hE, hr⟩ ?_)
    clear hE hr hul H1
    rintro q _ H1 ⟨x, t, rfl, hx, rfl, hE, hr⟩
    have hul := ils_len (hu.ext hE)
    rw [hn] at hul
    refine L_reg [0, 1, 7, 9, 10, 40] (fun K hK => ?_)
    simp [hul]
    apply hK; clear hK K
    refine L_dec (x < i) (by simp) (fun hxl => ?_) (fun hxg => L_exit ?_)
    · refine L_block ?_
      obtain ⟨L1, hL1⟩ : ∃ L1, rndR a b i x L0 = L1 := ⟨_, rfl⟩
      have hl1 : L1.length = i := by rw [← hL1, (rndR_sm hl0 x (by omega)).1, hl0]
      have hnx1 : rndR a b i (x + 1) L0 = rowR a b x i L1 := by rw [rndR_succ, hL1]
      rw [hL1] at hr
      refine L_reg [0, 1, 7, 9, 10, 11] (fun K hK => ?_)
      simp
      apply hK; clear hK K
      refine L_block (L_loopV [11] (fun q vs H' => ∃ (k t : Nat), q = i - k ∧ k ≤ i ∧ vs = [.int .i64 k] ∧ Ext H H' ∧ H'[H.length]? = some (.row ((il (rowR a b x k L1)).map (.int .i64)) 0 t false)) _ [.int .i64 (0 : Nat)] rfl ⟨0, t, rfl, by omega, rfl, hE, hr⟩ ?_)
      clear hE hr hul H1
      rintro q _ H1 ⟨k, t, rfl, hk, rfl, hE, hr⟩
      have hu1 := hu.ext hE
      have hv1 := hv.ext hE
      have hul := ils_len hu1
      rw [hn] at hul
      refine L_reg [0, 1, 7, 9, 10, 11, 46] (fun K hK => ?_)
      simp [hul]
      apply hK; clear hK K
      refine L_dec (k < i) (by simp) (fun hkl => ?_) (fun hkg => L_exit ?_)
      · refine L_block ?_
        obtain ⟨r1, p1, v1, x1, y1⟩ := il_ix hu1 (i := x) (by omega)
        obtain ⟨r2, p2, v2, x2, y2⟩ := il_ix hu1 (i := k) (by omega)
        obtain ⟨r3, p3, v3, x3, y3⟩ := il_ix hv1 (i := x) (by omega)
        obtain ⟨r4, p4, v4, x4, y4⟩ := il_ix hv1 (i := k) (by omega)
        rw [← ga_lt (l := a) (by omega)] at y1 y2
        rw [← ga_lt (l := b) (by omega)] at y3 y4
        obtain ⟨L2, hL2⟩ : ∃ L2, rowR a b x k L1 = L2 := ⟨_, rfl⟩
        have hl2 : L2.length = i := by rw [← hL2, (rowR_sm (by omega) k).1, hl1]
        have hnx2 : rowR a b x (k + 1) L1 = if rel a b x k then L2.set x (min (ga L2 x) (ga L2 k)) else L2 := by rw [rowR_succ, hL2]; rfl
        rw [hL2] at hr
        have z1 := cell_il hr (j := x) (by omega)
        have z2 := cell_il hr (j := k) (by omega)
        have hst := set_il hr (j := x) (by omega) (min (ga L2 x) (ga L2 k))
        have hmn : min (ga L2 x : Int) (ga L2 k : Int) = ((min (ga L2 x) (ga L2 k) : Nat) : Int) := by omega
        have yes : rel a b x k = true → ∀ Q : Ex → Env → AH → Prop, True := fun _ _ => trivial
        by_cases c : rel a b x k = true
        · rw [if_pos c] at hnx2
          rw [← hnx2] at hst
          obtain ⟨M, hM⟩ : ∃ M, min (ga L2 x) (ga L2 k) = M := ⟨_, rfl⟩
          rw [hM] at hst hmn
          have hbr : ((ga a x : Int) == (ga a k : Int)) = true ∨ (((ga a x : Int) == (ga a k : Int)) = false ∧ ((ga b x : Int) == (ga b k : Int)) = true) := by
            unfold rel at c
            simp only [Bool.or_eq_true, beq_iff_eq] at c
            by_cases c1 : ga a x = ga a k
            · left; simp [c1]
            · right; refine ⟨by simp; omega, by have := c.resolve_left c1; simp [this]⟩
          rcases hbr with e1 | ⟨e1, e2⟩
          · refine L_regT mixed [0, 1, 7, 9, 10, 11, 68] (by kernel_rfl) (fun K hK => ?_)
            simp [pickV, x1, x2, y1, y2, e1]
            apply hK; clear hK K
            refine L_true rfl ?_
            refine L_regT mixed [0, 1, 7, 9, 10, 11] (by kernel_rfl) (fun K hK => ?_)
            simp [hxl, hkl, z1, z2, hmn, hst]
            apply hK; clear hK K
            refine L_reg [0, 1, 7, 9, 10, 11] (fun K hK => ?_)
            simp [wrap_i64 (a := (k : Int) + 1) (by omega)]
            apply hK; clear hK K
            exact ⟨i - (k + 1), [.int .i64 (k + 1 : Nat)], by omega, by simp, k + 1, _, rfl, by omega, rfl, hE.set _ (Nat.le_refl _), get_set hr⟩
          · refine L_regT mixed [0, 1, 7, 9, 10, 11, 68] (by kernel_rfl) (fun K hK => ?_)
            simp [pickV, x1, x2, x3, x4, y1, y2, y3, y4, e1, e2]
            apply hK; clear hK K
            refine L_true rfl ?_
            refine L_regT mixed [0, 1, 7, 9, 10, 11] (by kernel_rfl) (fun K hK => ?_)
            simp [hxl, hkl, z1, z2, hmn, hst]
            apply hK; clear hK K
            refine L_reg [0, 1, 7, 9, 10, 11] (fun K hK => ?_)
            simp [wrap_i64 (a := (k : Int) + 1) (by omega)]
            apply hK; clear hK K
            exact ⟨i - (k + 1), [.int .i64 (k + 1 : Nat)], by omega, by simp, k + 1, _, rfl, by omega, rfl, hE.set _ (Nat.le_refl _), get_set hr⟩
        · rw [if_neg c] at hnx2
          have e12 : ((ga a x : Int) == (ga a k : Int)) = false ∧ ((ga b x : Int) == (ga b k : Int)) = false := by
            unfold rel at c
            simp only [Bool.or_eq_true, beq_iff_eq, not_or] at c
            constructor <;> simp <;> omega
          refine L_regT mixed [0, 1, 7, 9, 10, 11, 68] (by kernel_rfl) (fun K hK => ?_)
          simp [pickV, x1, x2, x3, x4, y1, y2, y3, y4, e12.1, e12.2]
          apply hK; clear hK K
          refine L_false rfl ?_
          refine L_reg [0, 1, 7, 9, 10, 11] (fun K hK => ?_)
          simp [wrap_i64 (a := (k : Int) + 1) (by omega)]
          apply hK; clear hK K
          exact ⟨i - (k + 1), [.int .i64 (k + 1 : Nat)], by omega, by simp, k + 1, t, rfl, by omega, rfl, hE, by rw [hnx2]; exact hr⟩
      · have e : k = i := by omega
        subst e
        rw [← hnx1] at hr
        refine L_reg [0, 1, 7, 9, 10] (fun K hK => ?_)
        simp [wrap_i64 (a := (x : Int) + 1) (by omega)]
        apply hK; clear hK K
        exact ⟨k - (x + 1), [.int .i64 (x + 1 : Nat)], by omega, by simp, x + 1, t, rfl, by omega, rfl, hE, hr⟩
    · have e : x = i := by omega
      subst e
      rw [← hnx] at hr
      refine L_reg [0, 1, 7, 9] (fun K hK => ?_)
      simp [wrap_i64 (a := (m : Int) + 1) (by omega)]
      apply hK; clear hK K
      exact ⟨x - (m + 1), [.int .i64 (m + 1 : Nat)], by omega, by simp, m + 1, t, rfl, by omega, rfl, hE, hr⟩
  · have e : m = i := by omega
    subst e
    have hl : Ls H1 (.slice (some H.length) 0 m 0 1 false) (il (RL a b m m)) := by
      have := Ls.row hr false
      rwa [il_len, RL_len] at this
    refine L_reg [4, 5] (fun K hK => ?_)
    simp [okFn_low]
    refine of_ac (il (RL a b m m)) _ (by rw [il_len, RL_len]; omega) _ hl _ fun v' H' ho2 hE2 => ?_
    simp
    apply hK; clear hK K
    rw [dv_il] at ho2
    exact L_ret ⟨.inr rfl, _, rfl, h v' H' (ho2.mono hE.1) (hE.trans hE2)⟩
end
end Go.Proofs.Ytjaefngmidllgaa.St
