/- The division of the gaps, the reference's way. -/
import Derived.Test.YtjaefngmidllgaaGapP
namespace Go.Proofs.Ytjaefngmidllgaa.St
open Go Go.Proofs.Ytjaefngmidllgaa Go.Proofs.Ytjaefngmidllgaa.AX
set_option maxRecDepth 100000
set_option linter.unusedVariables false
theorem am_step {d : List Nat} {r i j : Nat} (hij : i ≤ j) (hj : j < d.length) : ((d.take (j + 1)).drop i).count r = ((d.take j).drop i).count r + if d[j] = r then 1 else 0 := by
  rw [← List.take_append_getElem hj, List.drop_append_of_le_length (by rw [List.length_take]; omega), List.count_append]
  congr 1
  simp [List.count_singleton]
theorem among_q {d : List Nat} (h9 : d.length ≤ 9) (r i j : Nat) (hij : i ≤ j + 1) (hj : j < d.length) (v : AV) (H : AH) (hv : Ls H v (il d)) (Q : AV → AH → Prop) (h : Q (.int .i64 (amS d r i j : Nat)) H) : AC Try.prog 92 [v, .int .i64 (r : Nat), .int .i64 (i : Nat), .int .i64 (j : Nat)] H Q := by
  refine L_body 26 Try.func92 rfl rfl ?_
  refine L_reg [0, 1, 2, 3] (fun K hK => ?_)
  simp
  apply hK; clear hK K
  refine L_reg [0, 1, 2, 3, 9] (fun K hK => ?_)
  simp
  apply hK; clear hK K
  refine L_reg [0, 1, 3, 9, 10] (fun K hK => ?_)
  simp
  apply hK; clear hK K
  refine L_block (L_loopV [9, 10] (fun q vs H' => ∃ k : Nat, q = j + 1 - k ∧ i ≤ k ∧ k ≤ j + 1 ∧ vs = [.int .i64 (((d.take k).drop i).count r : Nat), .int .i64 k] ∧ H = H') _ [.int .i64 (0 : Nat), .int .i64 (i : Nat)] rfl ⟨i, rfl, Nat.le_refl _, hij, by rw [List.drop_of_length_le (by rw [List.length_take]; omega)]; simp, rfl⟩ ?_)
  rintro q _ _ ⟨k, rfl, hik, hk, rfl, rfl⟩
  refine L_reg [0, 1, 3, 9, 10, 14] (fun K hK => ?_)
  simp
  apply hK; clear hK K
  refine L_dec (k < j + 1) (by simp; omega) (fun hlt => ?_) (fun hge => L_exit ?_)
  · refine L_block ?_
    have hkl : k < d.length := by omega
    obtain ⟨ra, pa, va, x1, y1⟩ := il_ix hv hkl
    have hs := am_step (r := r) hik hkl
    have hle : ((d.take k).drop i).count r ≤ 9 := Nat.le_trans List.count_le_length (by rw [List.length_drop, List.length_take]; omega)
    generalize d[k] = x at y1 hs
    generalize ((d.take k).drop i).count r = c at hs hle ⊢
    refine L_reg [0, 1, 3, 9, 10, 22] (fun K hK => ?_)
    simp [x1, y1]
    apply hK; clear hK K
    by_cases e : x = r
    · rw [if_pos e] at hs
      refine L_true (by simp [e]) ?_
      refine L_reg [0, 1, 3, 9, 10] (fun K hK => ?_)
      simp [wrap_i64 (a := (c : Int) + 1) (by omega)]
      apply hK; clear hK K
      refine L_reg [0, 1, 3, 9, 10] (fun K hK => ?_)
      simp [wrap_i64 (a := (k : Int) + 1) (by omega)]
      apply hK; clear hK K
      exact ⟨j + 1 - (k + 1), [.int .i64 (c + 1 : Nat), .int .i64 (k + 1 : Nat)], by omega, by simp, k + 1, rfl, by omega, by omega, by rw [hs], rfl⟩
    · rw [if_neg e] at hs
      refine L_false (by simp; omega) ?_
      refine L_reg [0, 1, 3, 9, 10] (fun K hK => ?_)
      simp [wrap_i64 (a := (k : Int) + 1) (by omega)]
      apply hK; clear hK K
      exact ⟨j + 1 - (k + 1), [.int .i64 (c : Nat), .int .i64 (k + 1 : Nat)], by omega, by simp, k + 1, rfl, by omega, by omega, by rw [hs]; simp, rfl⟩
  · have e : k = j + 1 := by omega
    subst e
    refine L_reg [8] (fun K hK => ?_)
    simp
    apply hK; clear hK K
    exact L_ret ⟨.inr rfl, _, rfl, h⟩
/-- Up to a room. -/
def whP (d : List Nat) (i j r : Nat) : Bool := (List.range r).all fun r => amS d r (i + 1) j == 0 || amS d r (i + 1) j == amS d r 0 (d.length - 1)
theorem whP_succ (d : List Nat) (i j r : Nat) : whP d i j (r + 1) = (whP d i j r && (amS d r (i + 1) j == 0 || amS d r (i + 1) j == amS d r 0 (d.length - 1))) := by
  unfold whP; rw [List.range_succ, List.all_append]; simp
set_option maxHeartbeats 2000000 in
theorem gapsR_ac {d : List Nat} (hd : OkD d) (v : AV) (H : AH) (hv : Ls H v (il d)) (Q : AV → AH → Prop) (h : ∀ v' H', OwnF H.length H' v' ((il (gp d)).map (.int .i64)) → Ext H H' → Q v' H') : AC Try.prog 82 [v] H Q := by
  have h9 := hd.len
  have hol := opn_le d 0
  refine L_body 61 Try.func82 rfl rfl ?_
  refine L_reg [0] (fun K hK => ?_)
  simp
  apply hK; clear hK K
  refine L_reg [0, 3] (fun K hK => ?_)
  simp
  apply hK; clear hK K
  refine L_reg [0, 3, 4] (fun K hK => ?_)
  simp
  apply hK; clear hK K
  refine L_block (L_loopV [3, 4] (fun q vs H' => ∃ (j : Nat) (u : AV), q = d.length - j ∧ j ≤ d.length ∧ vs = [u, .int .i64 j] ∧ Ext H H' ∧ OwnF H.length H' u ((il ((labG d).take j)).map (.int .i64))) _ [.slice none 0 0 0 1 false, .int .i64 (0 : Nat)] rfl ⟨0, _, rfl, by omega, rfl, .refl _, by simp [il]; exact OwnF.nil _ _⟩ ?_)
  rintro q _ H1 ⟨j, u, rfl, hj, rfl, hE, ho⟩
  have hv1 := hv.ext hE
  have hvl := ils_len hv1
  have hu := ownF_ls ho
  have hll := labG_len d
  have htl : ((labG d).take j).length = j := by simp; omega
  refine L_reg [0, 3, 4, 13] (fun K hK => ?_)
  simp [hvl]
  apply hK; clear hK K
  refine L_dec (j < d.length) (by simp) (fun hlt => ?_) (fun hge => L_exit ?_)
  · refine L_block ?_
    obtain ⟨f1, f2, f3⟩ := first_key hlt
    have hlab : ∀ m, (hm : m < d.length) → (labG d)[m]'(by omega) = (keysG d).idxOf (keyG d m) := fun m hm => by simp only [labG, List.getElem_map, keysG_get hm]
    have hlj := hlab j hlt
    obtain ⟨F, hF⟩ : ∃ F, (keysG d).idxOf (keyG d j) = F := ⟨_, rfl⟩
    rw [hF] at f1 f2 f3 hlj
    refine L_reg [0, 3, 4, 5] (fun K hK => ?_)
    simp
    apply hK; clear hK K
    refine L_reg [0, 3, 4, 5, 6] (fun K hK => ?_)
    simp [wrap_i64 (a := (j : Int) - 1) (by omega)]
    apply hK; clear hK K
    refine L_block (L_loopV [5, 6] (fun q vs H' => ∃ (k lab : Nat), q = k ∧ k ≤ j ∧ vs = [.int .i64 (lab : Nat), .int .i64 ((k : Int) - 1)] ∧ H1 = H' ∧ (lab = F ∨ (lab = j ∧ ∀ i, k ≤ i → i < j → keyG d i ≠ keyG d j))) _ [.int .i64 (j : Nat), .int .i64 ((j : Int) - 1)] rfl ⟨j, j, rfl, Nat.le_refl _, rfl, rfl, .inr ⟨rfl, fun i h1 h2 => by omega⟩⟩ ?_)
    rintro q _ _ ⟨k, lab, hqk, hk, rfl, rfl, hl⟩
    refine L_reg [0, 3, 4, 5, 6, 20] (fun K hK => ?_)
    simp
    apply hK; clear hK K
    cases k with
    | succ i =>
      refine L_true (by simp; omega) ?_
      refine L_block ?_
      have e1 : ((i + 1 : Nat) : Int) - 1 = (i : Int) := by omega
      rw [e1]
      refine L_reg [0, 3, 4, 5, 6, 7] (fun K hK => ?_)
      simp
      apply hK; clear hK K
      refine L_reg [0, 3, 4, 5, 6, 7, 8] (fun K hK => ?_)
      simp
      apply hK; clear hK K
      obtain ⟨o, hoo⟩ : ∃ o, opn 0 d = o := ⟨_, rfl⟩
      rw [hoo] at hol
      refine L_block (L_loopV [7, 8] (fun q vs H' => ∃ r : Nat, q = o - r ∧ r ≤ o ∧ vs = [.bool (whP d i j r), .int .i64 r] ∧ H1 = H') _ [.bool true, .int .i64 (0 : Nat)] rfl ⟨0, rfl, by omega, by simp [whP], rfl⟩ ?_)
      rintro q _ _ ⟨r, rfl, hr, rfl, rfl⟩
      refine L_reg [0, 3, 4, 5, 6, 7, 8, 26] (fun K hK => ?_)
      simp [okFn_low]
      refine many_q d hd.rg (by omega) v _ hv1 _ ?_
      rw [hoo]
      simp
      apply hK; clear hK K
      refine L_dec (r < o) (by simp) (fun hro => ?_) (fun hrg => L_exit ?_)
      · refine L_block ?_
        have hsu := whP_succ d i j r
        have hq1 := fun Q h => among_q h9 r (i + 1) j (by omega) hlt v H1 hv1 Q h
        have hq2 := fun Q h => among_q h9 r 0 (d.length - 1) (by omega) (by omega) v H1 hv1 Q h
        have e2 : ((i + 1 : Nat) : Int) = (i : Int) + 1 := by omega
        have e3 : ((d.length - 1 : Nat) : Int) = (d.length : Int) - 1 := by omega
        rw [e2] at hq1
        rw [e3] at hq2
        refine L_reg [0, 3, 4, 5, 6, 7, 8, 9] (fun K hK => ?_)
        simp [okFn_low, wrap_i64 (a := (i : Int) + 1) (by omega)]
        refine hq1 _ ?_
        simp
        apply hK; clear hK K
        refine L_reg [0, 3, 4, 5, 6, 7, 8] (fun K hK => ?_)
        suffices hk : K [(0, v), (3, u), (4, .int .i64 (j : Nat)), (5, .int .i64 (lab : Nat)), (6, .int .i64 (i : Int)), (7, .bool (whP d i j (r + 1))), (8, .int .i64 (r : Nat))] H1 by
          rw [hsu] at hk
          cases hw : whP d i j r with
          | false =>
            rw [hw, Bool.false_and] at hk
            simp [pickV]
            exact hk
          | true =>
            rw [hw, Bool.true_and] at hk
            by_cases c0 : amS d r (i + 1) j = 0
            · have c0' : (amS d r (i + 1) j == 0) = true := by simp [c0]
              rw [c0', Bool.true_or] at hk
              simp [pickV, c0]
              exact hk
            · have c0' : (amS d r (i + 1) j == 0) = false := by simpa using c0
              rw [c0', Bool.false_or] at hk
              have c0i : ((amS d r (i + 1) j : Int) == 0) = false := by simp; omega
              simp [c0i, okFn_low, hvl, wrap_i64 (a := (d.length : Int) - 1) (by omega)]
              refine hq2 _ ?_
              have e4 : ((amS d r (i + 1) j : Int) == (amS d r 0 (d.length - 1) : Int)) = (amS d r (i + 1) j == amS d r 0 (d.length - 1)) := by rw [Bool.eq_iff_iff, beq_iff_eq, beq_iff_eq]; omega
              simp [pickV, e4]
              exact hk
        apply hK; clear hK K
        refine L_reg [0, 3, 4, 5, 6, 7, 8] (fun K hK => ?_)
        simp [wrap_i64 (a := (r : Int) + 1) (by omega)]
        apply hK; clear hK K
        exact ⟨o - (r + 1), [.bool (whP d i j (r + 1)), .int .i64 (r + 1 : Nat)], by omega, by simp, r + 1, rfl, by omega, rfl, rfl⟩
      · have e : r = o := by omega
        subst e
        have hkw := key_wh hd (i := i) (j := j) (by omega) hlt
        have hww : whP d i j r = whB d i j := by unfold whB whP; rw [hoo]
        rw [← hww] at hkw
        refine L_reg [0, 3, 4, 5, 6, 50] (fun K hK => ?_)
        simp
        apply hK; clear hK K
        cases hw : whP d i j r with
        | true =>
          have hke := hkw.2 hw
          obtain ⟨ra, pa, va, x1, y1⟩ := il_ix hu (i := i) (by omega)
          have hli : ((labG d).take j)[i]'(by omega) = F := by rw [List.getElem_take, hlab i (by omega), hke, hF]
          rw [hli] at y1
          refine L_true rfl ?_
          refine L_reg [0, 3, 4, 5, 6] (fun K hK => ?_)
          simp [x1, y1]
          apply hK; clear hK K
          refine L_reg [0, 3, 4, 5, 6] (fun K hK => ?_)
          simp [wrap_i64 (a := (i : Int) - 1) (by omega)]
          apply hK; clear hK K
          exact ⟨i, [.int .i64 (F : Nat), .int .i64 ((i : Int) - 1)], by omega, by simp, i, F, rfl, by omega, rfl, rfl, .inl rfl⟩
        | false =>
          have hke : keyG d i ≠ keyG d j := fun e => by rw [hkw.1 e] at hw; cases hw
          refine L_false rfl ?_
          refine L_reg [0, 3, 4, 5, 6] (fun K hK => ?_)
          simp [wrap_i64 (a := (i : Int) - 1) (by omega)]
          apply hK; clear hK K
          refine ⟨i, [.int .i64 (lab : Nat), .int .i64 ((i : Int) - 1)], by omega, by simp, i, lab, rfl, by omega, rfl, rfl, ?_⟩
          rcases hl with hl | ⟨hl, hl2⟩
          · exact .inl hl
          · exact .inr ⟨hl, fun m h1 h2 => by
              by_cases c : m = i
              · rw [c]; exact hke
              · exact hl2 m (by omega) h2⟩
    | zero =>
      refine L_false (by simp) (L_exit ?_)
      have hlab2 : lab = F := by
        rcases hl with hl | ⟨hl, hl2⟩
        · exact hl
        · rw [hl]
          apply Classical.byContradiction
          intro hne
          exact hl2 F (by omega) (by omega) f2
      subst hlab2
      obtain ⟨v', H3, happ, ho3, hE3⟩ := ownF_append (P := Try.prog) (m := 1) (x := .int .i64 (lab : Nat)) hE el22 el22 ho rfl (by simp [il_len]; omega)
      refine L_reg [0, 3, 4] (fun K hK => ?_)
      simp [happ]
      apply hK; clear hK K
      refine L_reg [0, 3, 4] (fun K hK => ?_)
      simp [wrap_i64 (a := (j : Int) + 1) (by omega)]
      apply hK; clear hK K
      refine ⟨d.length - (j + 1), [v', .int .i64 (j + 1 : Nat)], by omega, by simp, j + 1, v', rfl, by omega, rfl, hE3, ?_⟩
      rw [← List.take_append_getElem (by omega), hlj, il_snoc, List.map_append]
      exact ho3
  · have e : j = d.length := by omega
    subst e
    rw [← hll, List.take_length] at ho
    refine L_reg [2] (fun K hK => ?_)
    simp [okFn_low]
    refine of_ac (il (labG d)) u (by rw [il_len]; omega) _ (ownF_ls ho) _ fun v' H' ho2 hE2 => ?_
    simp
    apply hK; clear hK K
    have : dv (il (labG d)) = gp d := by
      rw [← dv_lab]
      refine dv_congr _ _ (il_len _) fun x y hx hy => ?_
      rw [il_len] at hx hy
      rw [il_get hx, il_get hy]
      omega
    rw [this] at ho2
    exact L_ret ⟨.inr rfl, _, rfl, h v' H' (ho2.mono hE.1) (hE.trans hE2)⟩
/-- The error of a division that must be flat. -/
def flE (l : List Int) (d : List Nat) : Int := if chk l = 0 then (if crS d = 0 then 0 else 13) else chk l
theorem flat_bad (F : Nat) (hF : F = 79 ∨ F = 81) (l : List Int) (v : AV) (hlen : l.length ≤ 1000000) (hc : chk l ≠ 0) (H : AH) (hv : Ls H v l) (Q : AV → AH → Prop) (h : Q (.int .i64 (chk l)) H) : AC Try.prog F [v] H Q := by
  rcases hF with rfl | rfl
  · refine L_body 19 Try.func79 rfl rfl ?_
    refine L_reg [0] (fun K hK => ?_)
    simp
    apply hK; clear hK K
    refine L_reg [0, 3] (fun K hK => ?_)
    simp [okFn_low]
    refine Check_q l v hlen _ hv _ ?_
    simp
    apply hK; clear hK K
    refine L_reg [0, 3, 9] (fun K hK => ?_)
    simp
    apply hK; clear hK K
    refine L_true (by simpa using hc) ?_
    refine L_reg [2] (fun K hK => ?_)
    simp
    apply hK; clear hK K
    exact L_ret ⟨.inr rfl, _, rfl, h⟩
  · refine L_body 19 Try.func81 rfl rfl ?_
    refine L_reg [0] (fun K hK => ?_)
    simp
    apply hK; clear hK K
    refine L_reg [3, 5] (fun K hK => ?_)
    simp [okFn_low]
    refine Arcs_bad 36 (.inr rfl) l v hlen hc _ hv _ ?_
    simp
    apply hK; clear hK K
    have hcb : (chk l == 0) = false := by simpa using hc
    refine L_reg [5, 17] (fun K hK => ?_)
    simp [pickV, hcb]
    apply hK; clear hK K
    refine L_false rfl ?_
    refine L_reg [2] (fun K hK => ?_)
    simp
    apply hK; clear hK K
    exact L_ret ⟨.inr rfl, _, rfl, h⟩
theorem flat_ok (F : Nat) (hF : F = 79 ∨ F = 81) {d : List Nat} (hd : OkD d) (v : AV) (H : AH) (hv : Ls H v (il d)) (Q : AV → AH → Prop) (h : ∀ H', Ext H H' → Q (.int .i64 (if crS d = 0 then 0 else 13)) H') : AC Try.prog F [v] H Q := by
  have h9 := hd.len
  have hlen : (il d).length ≤ 1000000 := by rw [il_len]; omega
  have hc := chk_il hd
  have hAl := arcsL_len d 0
  rcases hF with rfl | rfl
  · refine L_body 19 Try.func79 rfl rfl ?_
    refine L_reg [0] (fun K hK => ?_)
    simp
    apply hK; clear hK K
    refine L_reg [0, 3] (fun K hK => ?_)
    simp [okFn_low]
    refine Check_q (il d) v hlen _ hv _ ?_
    simp [hc]
    apply hK; clear hK K
    refine L_reg [0, 3, 9] (fun K hK => ?_)
    simp
    apply hK; clear hK K
    refine L_false rfl ?_
    refine L_reg [4] (fun K hK => ?_)
    simp [okFn_low]
    refine arcs_ac hd.pos h9 v H hv _ fun u H1 ho hE => ?_
    simp [okFn_low]
    refine met_ac (arcsL 0 d) (by omega) u H1 ho.rs _ fun H2 hE2 => ?_
    have hcr : triP crM (arcsL 0 d) = crS d := rfl
    rw [hcr]
    simp
    apply hK; clear hK K
    refine L_reg [18] (fun K hK => ?_)
    simp
    apply hK; clear hK K
    by_cases c : crS d = 0
    · rw [if_pos c] at h
      refine L_false (by simp [c]) ?_
      refine L_reg [2] (fun K hK => ?_)
      simp
      apply hK; clear hK K
      exact L_ret ⟨.inr rfl, _, rfl, h _ (hE.trans hE2)⟩
    · rw [if_neg c] at h
      refine L_true (by simp; omega) ?_
      refine L_reg [2] (fun K hK => ?_)
      simp
      apply hK; clear hK K
      exact L_ret ⟨.inr rfl, _, rfl, h _ (hE.trans hE2)⟩
  · refine L_body 19 Try.func81 rfl rfl ?_
    refine L_reg [0] (fun K hK => ?_)
    simp
    apply hK; clear hK K
    refine L_reg [3, 5] (fun K hK => ?_)
    simp [okFn_low]
    refine Arcs_ok 36 (.inr rfl) hd v H hv _ fun H1 hE => ?_
    simp
    apply hK; clear hK K
    refine L_reg [5, 17] (fun K hK => ?_)
    simp [pickV]
    apply hK; clear hK K
    by_cases c : crS d = 0
    · rw [if_pos c] at h
      refine L_false (by simp [c]) ?_
      refine L_reg [2] (fun K hK => ?_)
      simp
      apply hK; clear hK K
      exact L_ret ⟨.inr rfl, _, rfl, h _ hE⟩
    · rw [if_neg c] at h
      refine L_true (by simp; omega) ?_
      refine L_reg [5] (fun K hK => ?_)
      simp
      apply hK; clear hK K
      refine L_reg [2] (fun K hK => ?_)
      simp
      apply hK; clear hK K
      exact L_ret ⟨.inr rfl, _, rfl, h _ hE⟩
end Go.Proofs.Ytjaefngmidllgaa.St
