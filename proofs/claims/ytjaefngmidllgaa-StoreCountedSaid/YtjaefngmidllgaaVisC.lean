/- Divisions counted and numbered: what the visitor keeps. -/
import Derived.Test.YtjaefngmidllgaaRms
import Derived.Test.YtjaefngmidllgaaUni
namespace Go.Proofs.Ytjaefngmidllgaa.St
open Go Go.Proofs.Ytjaefngmidllgaa Go.Proofs.Ytjaefngmidllgaa.AX
set_option maxRecDepth 100000
set_option linter.unusedVariables false
/-- Whether a division has the number that it comes with. -/
def gB (n : Nat) (c : Int) (d : List Nat) : Bool := decide (0 ≤ c ∧ c < (ways n 0 : Nat)) && decide (atS n 0 c.toNat = d) && decide ((numS 0 d : Int) = c)
/-- How many came, whether all is well, how many rooms they had. -/
def visC (n : Nat) (st : Int × Bool × List Int) (d : List Nat) : Int × Bool × List Int :=
  (IntKind.i64.wrap (st.1 + 1), if st.1.tmod 4 == 0 && st.2.1 then gB n st.1 d else st.2.1, st.2.2.set (opn 0 d) (IntKind.i64.wrap (st.2.2.getD (opn 0 d) 0 + 1)))
structure SC (pc pg pn pi n : Nat) (st : Int × Bool × List Int) (H : AH) : Prop where
  c : ∃ m, H[pc]? = some (.row [.int .i64 st.1] 0 m false)
  g : ∃ m, H[pg]? = some (.row [.bool st.2.1] 0 m false)
  n : ∃ m, H[pn]? = some (.row [.int .i64 (n : Nat)] 0 m false)
  i : ∃ m, H[pi]? = some (.row (st.2.2.map (.int .i64)) 0 m false)
  l : st.2.2.length = 8
def WC (pc pg pi : Nat) (j : Nat) : Prop := j = pc ∨ j = pg ∨ j = pi
set_option maxHeartbeats 4000000 in
theorem visC_ok (pc pg pn pi n N : Nat) (h1 : 1 ≤ n) (h7 : n ≤ 7) (d1 : pc ≠ pg) (d2 : pc ≠ pn) (d3 : pc ≠ pi) (d4 : pg ≠ pn) (d5 : pg ≠ pi) (d6 : pn ≠ pi) (b1 : pc < N) (b2 : pg < N) (b3 : pi < N) : Vis n (WC pc pg pi) N 50 [.ptr pc 0 0, .ptr pg 0 0, .ptr pn 0 0, .ptr pi 0 0] (SC pc pg pn pi n) (visC n) where
  ok := by kernel_rfl
  lt j hj := by rcases hj with rfl | rfl | rfl <;> assumption
  ext st H H' hS hE := by
    obtain ⟨⟨m1, c⟩, ⟨m2, g⟩, ⟨m3, n'⟩, ⟨m4, i⟩, l⟩ := hS
    exact ⟨⟨m1, hE.row c⟩, ⟨m2, hE.row g⟩, ⟨m3, hE.row n'⟩, ⟨m4, hE.row i⟩, l⟩
  step := by
    rintro ⟨c, g, f⟩ v d H Q hN hS hv hrv hr hdl h
    obtain ⟨⟨m1, rc⟩, ⟨m2, rgd⟩, ⟨m3, rn⟩, ⟨m4, ri⟩, hfl⟩ := hS
    simp only at rc rgd ri hfl
    have hd : OkD d := ⟨by omega, by omega, hr⟩
    have lc := ld_row (v := 0) (p := 0) rc
    have lg := ld_row (v := 0) (p := 0) rgd
    have ln := ld_row (v := 0) (p := 0) rn
    have lc : ld H pc 0 0 = some (.int .i64 c) := by rw [ld_row rc]; rfl
    have lg : ld H pg 0 0 = some (.bool g) := by rw [ld_row rgd]; rfl
    have ln : ld H pn 0 0 = some (.int .i64 (n : Nat)) := by rw [ld_row rn]; rfl
    refine L_body 67 Try.func50 rfl rfl ?_
    refine L_reg [0, 1, 2, 3, 4, 17] (fun K hK => ?_)
    suffices hk : K [(0, v), (1, .ptr pc 0 0), (2, .ptr pg 0 0), (3, .ptr pn 0 0), (4, .ptr pi 0 0), (17, .bool (c.tmod 4 == 0 && g))] H by
      cases e : (c.tmod 4 == 0) with
      | true => rw [e] at hk; simp [lc, lg, e, pickV]; simpa using hk
      | false => rw [e] at hk; simp [lc, e, pickV]; simpa using hk
    apply hK; clear hK K
    -- what both ways lead to
    refine L_condK [0, 1, 4] (fun e' H' => ∃ m2', e' = [(0, v), (1, .ptr pc 0 0), (4, .ptr pi 0 0)] ∧ Kp (WC pc pg pi) H H' ∧ H'[pc]? = some (.row [.int .i64 c] 0 m1 false) ∧ H'[pg]? = some (.row [.bool (if c.tmod 4 == 0 && g then gB n c d else g)] 0 m2' false) ∧ H'[pi]? = some (.row (f.map (.int .i64)) 0 m4 false)) (t := c.tmod 4 == 0 && g) rfl (fun ht => ?_) (fun hf => ?_) ?_
    · rw [if_pos ht]
      have hdd : dv (il d) = d := by
        have := dv_congr (il d) d (il_len d) fun x y hx hy => by
          rw [il_len] at hx hy
          rw [il_get hx, il_get hy]
          omega
        rw [this, dv_self d hr]
      have hsz : szE (il d).length = 0 := by rw [il_len]; exact sz_ok (by omega) (by omega)
      by_cases hc : 0 ≤ c ∧ c < (ways n 0 : Nat)
      · obtain ⟨k, rfl⟩ : ∃ k : Nat, c = k := ⟨c.toNat, by omega⟩
        have hgB : gB n (k : Int) d = (decide (atS n 0 k = d) && decide ((numS 0 d : Int) = (k : Int))) := by
          unfold gB; rw [decide_eq_true hc, Bool.true_and, Int.toNat_natCast]
        refine L_reg [0, 1, 2, 4, 6, 7] (fun K hK => ?_)
        simp [okFn_low, ln, lc]
        refine At_ok h1 (by omega) (by omega) H _ fun u H1 ho hE1 => ?_
        simp
        apply hK; clear hK K
        refine L_reg [0, 1, 2, 4, 6, 7, 8, 9] (fun K hK => ?_)
        simp [okFn_low]
        refine Number_ok hd v H1 (hv.ext hE1) _ ?_
        simp
        apply hK; clear hK K
        refine L_reg [0, 1, 2, 4, 6, 7, 8, 9, 10, 11] (fun K hK => ?_)
        simp [okFn_low]
        refine Of_ac 16 (.inl rfl) (il d) v (by rw [il_len]; omega) H1 (hv.ext hE1) _ (fun h => absurd hsz h) fun _ w H2 ho2 hE2 => ?_
        simp
        apply hK; clear hK K
        rw [hdd] at ho2
        have lu := (ownF_ls ho).ext hE2
        have lw := ownF_ls ho2
        have hE3 := hE1.trans hE2
        have lv := hv.ext hE3
        have lc2 : ld H2 pc 0 0 = some (.int .i64 (k : Int)) := hE3.ld lc
        have rg2 := hE3.row rgd
        have hal : (il (atS n 0 k)).length ≤ 1000000 := by rw [il_len, atS_len]; omega
        have hst := fun x : Bool => store_row (P := Try.prog) (u := 4) (p := 0) sc4 (x := .bool x) (y := .bool g) rfl rg2 rfl
        simp only [List.set_cons_zero, Nat.min_zero] at hst
        have hfin : ∀ x : Bool, gB n (k : Int) d = x → ∃ m2', Kp (WC pc pg pi) H (H2.set pg (.row [.bool x] 0 0 false)) ∧ (H2.set pg (.row [.bool x] 0 0 false))[pc]? = some (.row [.int .i64 (k : Int)] 0 m1 false) ∧ (H2.set pg (.row [.bool x] 0 0 false))[pg]? = some (.row [.bool (gB n (k : Int) d)] 0 m2' false) ∧ (H2.set pg (.row [.bool x] 0 0 false))[pi]? = some (.row (f.map (.int .i64)) 0 m4 false) := fun x hx => by
          rw [hx]
          exact ⟨_, (Kp.of hE3).set (.inr (.inl rfl)) _, by rw [set_ne (Ne.symm d1)]; exact hE3.row rc, get_set rg2, by rw [set_ne d5]; exact hE3.row ri⟩
        refine L_reg [0, 1, 4] (fun K hK => ?_)
        simp [okFn_low, pickV]
        refine same_q u v (il (atS n 0 k)) (il d) hal (by rw [il_len]; omega) H2 lu lv _ ?_
        by_cases hA : atS n 0 k = d
        · have e1 : decide (il (atS n 0 k) = il d) = true := by rw [hA]; simp
          rw [e1]
          by_cases hN2 : (numS 0 d : Int) = (k : Int)
          · simp [okFn_low, pickV, lc2, hN2]
            refine same_q w v (il d) (il d) (by rw [il_len]; omega) (by rw [il_len]; omega) H2 lw lv _ ?_
            simp [hst true]
            apply hK; clear hK K
            obtain ⟨m2', g1, g2, g3, g4⟩ := hfin true (by rw [hgB, decide_eq_true hA, decide_eq_true hN2]; rfl)
            exact ⟨m2', by simp, g1, g2, g3, g4⟩
          · have e2 : ((numS 0 d : Int) == (k : Int)) = false := by simpa using hN2
            simp [pickV, lc2, e2, hst false]
            apply hK; clear hK K
            obtain ⟨m2', g1, g2, g3, g4⟩ := hfin false (by rw [hgB, decide_eq_false hN2, Bool.and_false])
            exact ⟨m2', by simp, g1, g2, g3, g4⟩
        · have e1 : decide (il (atS n 0 k) = il d) = false := by rw [decide_eq_false_iff_not]; exact fun e => hA (il_inj e)
          rw [e1]
          simp [pickV, hst false]
          apply hK; clear hK K
          obtain ⟨m2', g1, g2, g3, g4⟩ := hfin false (by rw [hgB, decide_eq_false hA, Bool.false_and])
          exact ⟨m2', by simp, g1, g2, g3, g4⟩
      · have hgB : gB n c d = false := by unfold gB; rw [decide_eq_false hc]; rfl
        rw [hgB]
        refine L_reg [0, 1, 2, 4, 6, 7] (fun K hK => ?_)
        simp [okFn_low, ln, lc]
        refine At_none 27 (.inl rfl) h1 (by omega) c hc H _ ?_
        simp
        apply hK; clear hK K
        refine L_reg [0, 1, 2, 4, 6, 7, 8, 9] (fun K hK => ?_)
        simp [okFn_low]
        refine Number_ok hd v H hv _ ?_
        simp
        apply hK; clear hK K
        refine L_reg [0, 1, 2, 4, 6, 7, 8, 9, 10, 11] (fun K hK => ?_)
        simp [okFn_low]
        refine Of_ac 16 (.inl rfl) (il d) v (by rw [il_len]; omega) H hv _ (fun h => absurd hsz h) fun _ w H2 ho2 hE2 => ?_
        simp
        apply hK; clear hK K
        have rg2 := hE2.row rgd
        have hst := store_row (P := Try.prog) (u := 4) (p := 0) sc4 (x := .bool false) (y := .bool g) rfl rg2 rfl
        simp only [List.set_cons_zero, Nat.min_zero] at hst
        refine L_reg [0, 1, 4] (fun K hK => ?_)
        simp [pickV, hst]
        apply hK; clear hK K
        exact ⟨_, by simp, (Kp.of hE2).set (.inr (.inl rfl)) _, by rw [set_ne (Ne.symm d1)]; exact hE2.row rc, get_set rg2, by rw [set_ne d5]; exact hE2.row ri⟩
    · rw [if_neg (by rw [hf]; decide)]
      exact ⟨m2, by simp, .refl _ _, rc, rgd, ri⟩
    rintro _ H1 ⟨m2', rfl, hK1, rc1, rg1, ri1⟩
    have hgv : (visC n (c, g, f) d).2.1 = (if c.tmod 4 == 0 && g then gB n c d else g) := rfl
    have lc1 : ld H1 pc 0 0 = some (.int .i64 c) := by rw [ld_row rc1]; rfl
    have hst1 := store_row (P := Try.prog) (u := 3) (p := 0) sc3 (x := .int .i64 (IntKind.i64.wrap (c + 1))) (y := .int .i64 c) rfl rc1 rfl
    simp only [List.set_cons_zero, Nat.min_zero] at hst1
    refine L_reg [0, 4] (fun K hK => ?_)
    simp [lc1, hst1]
    apply hK; clear hK K
    have hK2 := hK1.set (r := pc) (.inl rfl) (AObj.row [.int .i64 (IntKind.i64.wrap (c + 1))] 0 0 false)
    have rc2 := get_set (o' := AObj.row [.int .i64 (IntKind.i64.wrap (c + 1))] 0 0 false) rc1
    have rg2 : (H1.set pc (AObj.row [.int .i64 (IntKind.i64.wrap (c + 1))] 0 0 false))[pg]? = some (.row [.bool (if c.tmod 4 == 0 && g then gB n c d else g)] 0 m2' false) := by rw [set_ne d1]; exact rg1
    have ri2 : (H1.set pc (AObj.row [.int .i64 (IntKind.i64.wrap (c + 1))] 0 0 false))[pi]? = some (.row (f.map (.int .i64)) 0 m4 false) := by rw [set_ne d3]; exact ri1
    generalize H1.set pc (AObj.row [.int .i64 (IntKind.i64.wrap (c + 1))] 0 0 false) = H2 at hK2 rc2 rg2 ri2 ⊢
    have hv2 := hK2.ls hv hrv
    have hop := opn_le d 0
    have hoq := opn_pos (by omega) hr
    obtain ⟨o, ho⟩ : ∃ o, opn 0 d = o := ⟨_, rfl⟩
    have ho8 : o < 8 := by omega
    have hfo : o < f.length := by omega
    have li : ld H2 pi o 0 = some (.int .i64 f[o]) := by rw [ld_row ri2]; simp [hfo, known]
    have hst2 := store_row (P := Try.prog) (u := 3) (p := o) sc3 (x := .int .i64 (IntKind.i64.wrap (f[o] + 1))) (y := .int .i64 f[o]) rfl ri2 (by simp [hfo, known])
    refine L_reg [] (fun K hK => ?_)
    simp [okFn_low]
    refine rooms_q (by omega) (by omega) hr v H2 hv2 _ ?_
    rw [ho]
    simp [show (o : Int) < 8 by omega, li, hst2]
    apply hK; clear hK K
    refine ⟨.inl rfl, _, rfl, h (H2.set pi (AObj.row ((f.map (AV.int .i64)).set o (.int .i64 (IntKind.i64.wrap (f[o] + 1)))) 0 (min m4 o) false)) ⟨⟨0, ?_⟩, ⟨m2', ?_⟩, ⟨m3, ?_⟩, ⟨min m4 o, ?_⟩, ?_⟩ (hK2.set (.inr (.inr rfl)) _)⟩
    · rw [set_ne (Ne.symm d3)]; exact rc2
    · rw [set_ne (Ne.symm d5), rg2]; rfl
    · rw [set_ne (Ne.symm d6)]
      exact hK2.row (fun hw => by rcases hw with e | e | e <;> simp_all) rn
    · have := get_set (o' := AObj.row ((f.map (AV.int .i64)).set o (.int .i64 (IntKind.i64.wrap (f[o] + 1)))) 0 (min m4 o) false) ri2
      rw [this]
      simp [visC, ho, hfo, List.map_set]
    · simp [visC, hfl]
end Go.Proofs.Ytjaefngmidllgaa.St
