/- Lists that are equal; program and reference under one contract. -/
import Derived.Test.YtjaefngmidllgaaAtP
namespace Go.Proofs.Ytjaefngmidllgaa.St
open Go Go.Proofs.Ytjaefngmidllgaa Go.Proofs.Ytjaefngmidllgaa.AX
set_option maxRecDepth 100000
set_option linter.unusedVariables false
theorem same_q (u v : AV) (l m : List Int) (hlen : l.length ≤ 1000000) (hlen' : m.length ≤ 1000000) (H : AH) (hu : Ls H u l) (hv : Ls H v m) (Q : AV → AH → Prop) (h : Q (.bool (decide (l = m))) H) : AC Try.prog 20 [u, v] H Q := by
  refine AC.quiet (belB_bool _ _ _) (fun Q h => ?_) Q h
  refine L_body 26 Try.func20 rfl rfl ?_
  have hul := ls_len hu
  have hvl := ls_len hv
  refine L_reg [0, 1] (fun K hK => ?_)
  simp
  apply hK; clear hK K
  refine L_reg [0, 1, 10] (fun K hK => ?_)
  simp [hul, hvl]
  apply hK; clear hK K
  by_cases hl : l.length = m.length
  case neg =>
    refine L_true (by simp; omega) ?_
    refine L_reg [4] (fun K hK => ?_)
    simp
    apply hK; clear hK K
    refine L_ret ⟨.inr rfl, _, rfl, ?_⟩
    rw [decide_eq_false (fun e => hl (by rw [e]))] at h
    exact h _ (.refl _)
  refine L_false (by simp; omega) ?_
  refine L_reg [0, 1, 5] (fun K hK => ?_)
  simp
  apply hK; clear hK K
  refine L_block (L_loopV [5] (fun q vs H' => ∃ i : Nat, q = l.length - i ∧ i ≤ l.length ∧ vs = [.int .i64 i] ∧ H = H' ∧ l.take i = m.take i) _ [.int .i64 (0 : Nat)] rfl ⟨0, rfl, by omega, rfl, rfl, rfl⟩ ?_)
  rintro q _ _ ⟨i, rfl, hi, rfl, rfl, hc⟩
  refine L_reg [0, 1, 5, 14] (fun K hK => ?_)
  simp [hul]
  apply hK; clear hK K
  refine L_dec (i < l.length) (by simp) (fun hlt => ?_) (fun hge => L_exit ?_)
  · refine L_block ?_
    obtain ⟨rz, pz, vz, hix, hldz⟩ := ls_ix hu hlt
    obtain ⟨rw', pw', vw', hiw, hldw⟩ := ls_ix hv (i := i) (by omega)
    have t1 : l.take (i + 1) = l.take i ++ [l[i]] := by rw [List.take_succ_eq_append_getElem hlt]
    have t2 : m.take (i + 1) = m.take i ++ [m[i]'(by omega)] := by rw [List.take_succ_eq_append_getElem (by omega)]
    have hne : l[i] ≠ m[i]'(by omega) → l ≠ m := fun h e => h (by subst e; rfl)
    generalize l[i] = x at hldz t1 hne
    generalize m[i]'(by omega) = y at hldw t2 hne
    refine L_regT mixed [0, 1, 5, 25] (by kernel_rfl) (fun K hK => ?_)
    simp [hix, hldz, hiw, hldw]
    apply hK; clear hK K
    by_cases hxy : x = y
    · refine L_false (by simp [hxy]) ?_
      refine L_reg [0, 1, 5] (fun K hK => ?_)
      simp [wrap_i64 (a := (i : Int) + 1) (by omega)]
      apply hK; clear hK K
      exact ⟨l.length - (i + 1), [.int .i64 (i + 1 : Nat)], by omega, by simp, i + 1, rfl, by omega, rfl, rfl, by rw [t1, t2, hc, hxy]⟩
    · refine L_true (by simp [hxy]) ?_
      refine L_reg [4] (fun K hK => ?_)
      simp
      apply hK; clear hK K
      refine L_ret ⟨.inr rfl, _, rfl, ?_⟩
      rw [decide_eq_false (hne hxy)] at h
      exact h _ (.refl _)
  · have e : i = l.length := by omega
    subst e
    rw [List.take_length, hl, List.take_length] at hc
    refine L_reg [4] (fun K hK => ?_)
    simp
    apply hK; clear hK K
    refine L_ret ⟨.inr rfl, _, rfl, ?_⟩
    rw [decide_eq_true hc] at h
    exact h _ (.refl _)
theorem sameN_q (u v : AV) (l m : List Nat) (hlen : l.length ≤ 1000000) (hlen' : m.length ≤ 1000000) (H : AH) (hu : Ls H u (il l)) (hv : Ls H v (il m)) (Q : AV → AH → Prop) (h : Q (.bool (decide (l = m))) H) : AC Try.prog 20 [u, v] H Q :=
  same_q u v (il l) (il m) (by rw [il_len]; exact hlen) (by rw [il_len]; exact hlen') H hu hv Q (by rw [show decide (il l = il m) = decide (l = m) by rw [decide_eq_decide]; exact ⟨il_inj, fun e => by rw [e]⟩]; exact h)

/-- A list and an error, whatever of some functions is asked. -/
def AnsL (Fs : List Nat) (mk : List AV) (P : AH → Prop) (L : List Int) (e : Int) : Prop := L.length ≤ 1000 ∧ ∀ F ∈ Fs, ∀ (H : AH), P H → ∀ Q : AV → AH → Prop, (∀ w H', Ls H' w L → Ext H H' → Q (.tuple [w, .int .i64 e]) H') → AC Try.prog F mk H Q
/-- A value and an error. -/
def AnsV (Fs : List Nat) (mk : List AV) (P : AH → Prop) (x : AV) : Prop := ∀ F ∈ Fs, ∀ (H : AH), P H → ∀ Q : AV → AH → Prop, (∀ H', Ext H H' → Q x H') → AC Try.prog F mk H Q
theorem Of_u (l : List Int) (v : AV) (hlen : l.length ≤ 1000) : ∃ L e, AnsL [16, 17] [v] (fun H => Ls H v l) L e := by
  by_cases c : szE l.length = 0
  · refine ⟨il (dv l), 0, by rw [il_len, dv_len]; exact hlen, fun F hF H hv Q h => ?_⟩
    exact Of_ac F (by simpa using hF) l v hlen H hv Q (fun h => absurd c h) fun _ v' H' ho hE => h v' H' (ownF_ls ho) hE
  · refine ⟨[], szE l.length, by simp, fun F hF H hv Q h => ?_⟩
    exact Of_ac F (by simpa using hF) l v hlen H hv Q (fun _ => h nilS H (Ls.nil H) (.refl _)) fun h => absurd h c
theorem Number_u (l : List Int) (v : AV) (hlen : l.length ≤ 1000) : ∃ x e, AnsV [18, 19] [v] (fun H => Ls H v l) (.tuple [.int .i64 x, .int .i64 e]) := by
  by_cases c : chk l = 0
  · obtain ⟨d, rfl, hd⟩ := chk_ok c
    refine ⟨(numS 0 d : Nat), 0, fun F hF H hv Q h => ?_⟩
    simp only [List.mem_cons, List.not_mem_nil, or_false] at hF
    rcases hF with rfl | rfl
    · exact Number_ok hd v H hv Q (h H (.refl _))
    · exact NumberR_ok hd v H hv Q h
  · exact ⟨0, chk l, fun F hF H hv Q h => Number_bad F (by simpa using hF) l v (by omega) c H hv Q (h H (.refl _))⟩
theorem At_u (n k : Int) : ∃ L e, AnsL [27, 28] [.int .i64 n, .int .i64 k] (fun _ => True) L e := by
  by_cases c : bxE n = 0
  · obtain ⟨m, rfl, h1, h2⟩ := bx_ok c
    by_cases ck : 0 ≤ k ∧ k < (ways m 0 : Nat)
    · obtain ⟨j, rfl⟩ : ∃ j : Nat, k = j := ⟨k.toNat, by omega⟩
      refine ⟨il (atS m 0 j), 0, by rw [il_len, atS_len]; omega, fun F hF H _ Q h => ?_⟩
      simp only [List.mem_cons, List.not_mem_nil, or_false] at hF
      rcases hF with rfl | rfl
      · exact At_ok h1 h2 (by omega) H Q fun v' H' ho hE => h v' H' (ownF_ls ho) hE
      · exact AtR_ok h1 h2 (by omega) H Q fun v' H' ho hE => h v' H' (ownF_ls ho) hE
    · exact ⟨[], 1, by simp, fun F hF H _ Q h => At_none F (by simpa using hF) h1 h2 k ck H Q (h nilS H (Ls.nil H) (.refl _))⟩
  · exact ⟨[], 1, by simp, fun F hF H _ Q h => At_bad F (by simpa using hF) n k c H Q (h nilS H (Ls.nil H) (.refl _))⟩
end Go.Proofs.Ytjaefngmidllgaa.St
