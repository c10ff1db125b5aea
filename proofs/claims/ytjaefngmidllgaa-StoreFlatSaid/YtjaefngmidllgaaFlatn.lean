/- The law's own flat divisions: the contract. -/
import Derived.Test.YtjaefngmidllgaaFlatC
import Derived.Test.YtjaefngmidllgaaLArc
import Derived.Test.YtjaefngmidllgaaAll
namespace Go.Proofs.Ytjaefngmidllgaa.St
open Go Go.Proofs.Ytjaefngmidllgaa Go.Proofs.Ytjaefngmidllgaa.AX
set_option maxRecDepth 100000
set_option linter.unusedVariables false
theorem ilm_app' (l : List Nat) (x : Nat) : (il l).map (AV.int .i64) ++ [.int .i64 (x : Nat)] = (il (l ++ [x])).map (.int .i64) := by simp [il]
theorem ga_app1 {d : List Nat} {x i : Nat} (h : i < d.length) : ga (d ++ [x]) i = ga d i := by
  rw [ga_lt (by simp; omega), ga_lt h, List.getElem_append_left h]
theorem ga_app2 (d : List Nat) (x : Nat) : ga (d ++ [x]) d.length = x := by
  rw [ga_lt (by simp)]; simp
theorem nc_new {d : List Nat} {o : Nat} (h : nc d) (hlt : ∀ x ∈ d, x < o) : nc (d ++ [o]) := by
  intro p q r s h1 h2 h3 h4 e1 e2
  simp only [List.length_append, List.length_cons, List.length_nil] at h4
  have hl : ∀ i, i < d.length → ga d i < o := fun i hi => by rw [ga_lt hi]; exact hlt _ (List.getElem_mem hi)
  rw [ga_app1 (by omega), ga_app1 (by omega)] at e1
  rw [ga_app1 (by omega)] at e2
  rw [ga_app1 (by omega), ga_app1 (by omega)]
  by_cases c : s = d.length
  · subst c
    rw [ga_app2] at e2
    have := hl q (by omega)
    omega
  · rw [ga_app1 (by omega)] at e2
    exact h p q r s h1 h2 h3 (by omega) e1 e2
set_option maxHeartbeats 4000000 in
theorem flatten_ac {a : List Nat} (h0 : 0 < a.length) (h9 : a.length ≤ 9) (v : AV) (H : AH) (hv : Ls H v (il a)) (Q : AV → AH → Prop) (h : ∀ d v' H', OkD d → d.length = a.length → crS d = 0 → OwnF H.length H' v' ((il d).map (.int .i64)) → Ext H H' → Q v' H') : AC Try.prog 48 [v] H Q := by
  have hvl := ils_len hv
  refine L_body 41 Try.func48 rfl rfl ?_
  refine L_reg [0] (fun K hK => ?_)
  simp
  apply hK; clear hK K
  refine L_reg [0, 3] (fun K hK => ?_)
  simp
  apply hK; clear hK K
  refine L_reg [0, 3, 4] (fun K hK => ?_)
  simp
  apply hK; clear hK K
  refine L_reg [3, 4, 9, 10, 11] (fun K hK => ?_)
  simp [hvl]
  apply hK; clear hK K
  refine L_block (L_loopV [3, 4, 11] (fun q vs H' => ∃ (i o : Nat) (d : List Nat) (u : AV), q = a.length - i ∧ i ≤ a.length ∧ vs = [u, .int .i64 o, .int .i64 i] ∧ Ext H H' ∧ d.length = i ∧ rg 0 d = true ∧ opn 0 d = o ∧ nc d ∧ OwnF H.length H' u ((il d).map (.int .i64)) ∧ (d = [] → u = .slice none 0 0 0 1 false)) _ [.slice none 0 0 0 1 false, .int .i64 (0 : Nat), .int .i64 (0 : Nat)] rfl ⟨0, 0, [], _, rfl, by omega, rfl, .refl _, rfl, rfl, rfl, fun p q r s _ _ _ h => by simp at h, .nil _ _, fun _ => rfl⟩ ?_)
  rintro q _ H1 ⟨i, o, d, u, rfl, hi, rfl, hE, hdl, hrg, ho, hnc, hO1, hnl⟩
  refine L_reg [3, 4, 9, 10, 11, 12] (fun K hK => ?_)
  simp
  apply hK; clear hK K
  refine L_dec (i < a.length) (by simp) (fun hlt => ?_) (fun hge => L_exit ?_)
  · refine L_block ?_
    have hole := opn_le d 0
    obtain ⟨r1, p1, v1, x1, y1⟩ := il_ix (hv.ext hE) hlt
    generalize a[i] = r at y1
    refine L_reg [3, 4, 6, 9, 10, 11] (fun K hK => ?_)
    simp [x1, y1]
    apply hK; clear hK K
    refine L_reg [3, 4, 6, 9, 10, 11, 17] (fun K hK => ?_)
    simp
    apply hK; clear hK K
    by_cases c : r < o
    · refine L_true (by simp; omega) ?_
      have hu1 := ownF_ls hO1
      obtain ⟨cu, hcu, hcapp⟩ := clip_app hu1 (fun e => hnl (by simpa [il] using e)) (by rw [il_len]; omega)
      have hEB : Ext H1 (H1 ++ [AObj.row [AV.int .i64 (r : Int)] 0 1 false]) := .push _ _
      have hsx : Ls (H1 ++ [AObj.row [AV.int .i64 (r : Int)] 0 1 false]) (.slice (some H1.length) 0 1 0 1 false) [(r : Int)] := Ls.row (ro := false) (l := [(r : Int)]) (s := 1) (by simp) false
      have happ := hcapp (H1 ++ [AObj.row [AV.int .i64 (r : Int)] 0 1 false]) (.slice (some H1.length) 0 1 0 1 false) (.int .i64 (r : Int)) hEB (by have := src_ls el22 hsx; simpa using this) rfl
      rw [il_len] at happ
      have hcl := fun Q h => Clip_ac u cu (il d) H1 Q hu1 hcu h
      have hrow : Ext H1 (H1 ++ [AObj.row [AV.int .i64 (r : Int)] 0 1 false, .row ((il d).map (.int .i64) ++ [.int .i64 (r : Int)]) 0 0 false]) := Ext.push _ _
      have hw2 : Ls (H1 ++ [AObj.row [AV.int .i64 (r : Int)] 0 1 false, .row ((il d).map (.int .i64) ++ [.int .i64 (r : Int)]) 0 0 false]) (.slice (some (H1.length + 1)) 0 (d.length + 1) 0 1 false) (il (d ++ [r])) := by
        have hr3 : (H1 ++ [AObj.row [AV.int .i64 (r : Int)] 0 1 false, .row ((il d).map (.int .i64) ++ [.int .i64 (r : Int)]) 0 0 false])[H1.length + 1]? = some (.row ((il (d ++ [r])).map (.int .i64)) 0 0 false) := by rw [il_snoc]; simp
        have := Ls.row (ro := false) hr3 false
        rw [il_len, List.length_append] at this
        exact this
      refine L_reg [3, 4, 6, 7, 9, 10, 11] (fun K hK => ?_)
      simp [okFn_low]
      refine hcl _ ?_
      simp [okFn_low, happ]
      refine larcs_ac (d := d ++ [r]) (by simp; omega) _ _ hw2 _ fun H2 hE2 => ?_
      simp
      apply hK; clear hK K
      have hE3 := hrow.trans hE2
      have hO2 := ownF_ext hO1 hE3
      have hE4 := hE.trans hE3
      clear hw2 hrow happ hcapp hcl hsx hEB hcu hu1
      refine L_reg [3, 4, 6, 9, 10, 11, 28] (fun K hK => ?_)
      simp
      apply hK; clear hK K
      by_cases c2 : crS (d ++ [r]) = 0
      · refine L_true (by simp [c2]) ?_
        obtain ⟨u2, HX, happ, hO, hX2, -, -, -⟩ := ownF_append2 hE4 (P := Try.prog) el22 el22 (m := 1) hO2 (x := .int .i64 (r : Nat)) rfl (by simp [il]; omega)
        have hO3 : OwnF H.length HX u2 ((il (d ++ [r])).map (.int .i64)) := by rw [← ilm_app']; exact hO
        refine L_reg [3, 4, 9, 10, 11] (fun K hK => ?_)
        simp [happ]
        apply hK; clear hK K
        refine L_exit ?_
        refine L_reg [3, 4, 9, 10, 11] (fun K hK => ?_)
        simp [wrap_i64 (a := (i : Int) + 1) (by omega)]
        apply hK; clear hK K
        exact ⟨a.length - (i + 1), [u2, .int .i64 (o : Nat), .int .i64 (i + 1 : Nat)], by omega, by simp, i + 1, o, d ++ [r], u2, rfl, by omega, rfl, hX2, by simp; omega, by rw [rg_snoc, hrg, ho, Bool.true_and, decide_eq_true_eq]; omega, by rw [opn_snoc, ho, if_neg (by omega)], nc_iff.1 c2, hO3, fun e => by simp at e⟩
      · refine L_false (by simp [c2]) ?_
        obtain ⟨u2, HX, happ, hO, hX2, -, -, -⟩ := ownF_append2 hE4 (P := Try.prog) el22 el22 (m := 1) hO2 (x := .int .i64 (o : Nat)) rfl (by simp [il]; omega)
        have hO5 : OwnF H.length HX u2 ((il (d ++ [o])).map (.int .i64)) := by rw [← ilm_app']; exact hO
        refine L_reg [3, 4, 9, 10, 11] (fun K hK => ?_)
        simp [happ]
        apply hK; clear hK K
        refine L_reg [3, 4, 9, 10, 11] (fun K hK => ?_)
        simp [wrap_i64 (a := (o : Int) + 1) (by omega)]
        apply hK; clear hK K
        refine L_reg [3, 4, 9, 10, 11] (fun K hK => ?_)
        simp [wrap_i64 (a := (i : Int) + 1) (by omega)]
        apply hK; clear hK K
        exact ⟨a.length - (i + 1), [u2, .int .i64 (o + 1 : Nat), .int .i64 (i + 1 : Nat)], by omega, by simp, i + 1, o + 1, d ++ [o], u2, rfl, by omega, rfl, hX2, by simp; omega, by rw [rg_snoc, hrg, ho]; simp, by rw [opn_snoc, ho, if_pos rfl], nc_new hnc (fun x hx => by have := rg_lt d 0 hrg x hx; omega), hO5, fun e => by simp at e⟩
    · refine L_false (by simp; omega) ?_
      obtain ⟨u2, HX, happ, hO, hX2, -, -, -⟩ := ownF_append2 hE (P := Try.prog) el22 el22 (m := 1) hO1 (x := .int .i64 (o : Nat)) rfl (by simp [il]; omega)
      have hO2 : OwnF H.length HX u2 ((il (d ++ [o])).map (.int .i64)) := by rw [← ilm_app']; exact hO
      refine L_reg [3, 4, 9, 10, 11] (fun K hK => ?_)
      simp [happ]
      apply hK; clear hK K
      refine L_reg [3, 4, 9, 10, 11] (fun K hK => ?_)
      simp [wrap_i64 (a := (o : Int) + 1) (by omega)]
      apply hK; clear hK K
      refine L_reg [3, 4, 9, 10, 11] (fun K hK => ?_)
      simp [wrap_i64 (a := (i : Int) + 1) (by omega)]
      apply hK; clear hK K
      exact ⟨a.length - (i + 1), [u2, .int .i64 (o + 1 : Nat), .int .i64 (i + 1 : Nat)], by omega, by simp, i + 1, o + 1, d ++ [o], u2, rfl, by omega, rfl, hX2, by simp; omega, by rw [rg_snoc, hrg, ho]; simp, by rw [opn_snoc, ho, if_pos rfl], nc_new hnc (fun x hx => by have := rg_lt d 0 hrg x hx; omega), hO2, fun e => by simp at e⟩
  · have e : i = a.length := by omega
    refine L_reg [2] (fun K hK => ?_)
    simp
    apply hK; clear hK K
    exact L_ret ⟨.inr rfl, _, rfl, h d _ _ ⟨by omega, by omega, hrg⟩ (by omega) (nc_iff.2 hnc) hO1 hE⟩
end Go.Proofs.Ytjaefngmidllgaa.St
