/- Finer, Join and Meet: both ways. -/
import Derived.Test.YtjaefngmidllgaaKey
import Derived.Test.YtjaefngmidllgaaStJ
import Derived.Test.YtjaefngmidllgaaRegF
import Derived.Test.YtjaefngmidllgaaUni
namespace Go.Proofs.Ytjaefngmidllgaa.St
open Go Go.Proofs.Ytjaefngmidllgaa Go.Proofs.Ytjaefngmidllgaa.AX
set_option maxRecDepth 100000
set_option linter.unusedVariables false
/-- The error of two divisions. -/
def prE (a b : List Int) : Int := if chk a = 0 then (if chk b = 0 then (if a.length = b.length then 0 else 5) else chk b) else chk a
theorem pr_ok {a b : List Int} (h : prE a b = 0) : ∃ d e, a = il d ∧ b = il e ∧ OkD d ∧ OkD e ∧ d.length = e.length := by
  unfold prE at h
  split at h
  · rename_i h1
    split at h
    · rename_i h2
      split at h
      · rename_i h3
        obtain ⟨d, rfl, hd⟩ := chk_ok h1
        obtain ⟨e, rfl, he⟩ := chk_ok h2
        rw [il_len, il_len] at h3
        exact ⟨d, e, rfl, rfl, hd, he, h3⟩
      · cases h
    · rename_i h2; exact absurd h h2
  · rename_i h1; exact absurd h h1
theorem pair_q (F : Nat) (hF : F = 69 ∨ F = 72) (a b : List Int) (u v : AV) (hla : a.length ≤ 1000000) (hlb : b.length ≤ 1000000) (H : AH) (hu : Ls H u a) (hv : Ls H v b) (Q : AV → AH → Prop) (h : Q (.int .i64 (prE a b)) H) : AC Try.prog F [u, v] H Q := by
  have hul := ls_len hu
  have hvl := ls_len hv
  unfold prE at h
  rcases hF with rfl | rfl
  · refine L_body 22 Try.func69 rfl rfl ?_
    refine L_reg [0, 1] (fun K hK => ?_)
    simp
    apply hK; clear hK K
    refine L_reg [0, 1, 5] (fun K hK => ?_)
    simp [okFn_low]
    refine Check_q a u hla _ hu _ ?_
    simp
    apply hK; clear hK K
    refine L_reg [0, 1, 5, 10] (fun K hK => ?_)
    simp
    apply hK; clear hK K
    by_cases c1 : chk a = 0
    · rw [if_pos c1] at h
      refine L_false (by simpa using c1) ?_
      refine L_reg [0, 1, 6] (fun K hK => ?_)
      simp [okFn_low]
      refine Check_q b v hlb _ hv _ ?_
      simp
      apply hK; clear hK K
      refine L_reg [0, 1, 6, 15] (fun K hK => ?_)
      simp
      apply hK; clear hK K
      by_cases c2 : chk b = 0
      · rw [if_pos c2] at h
        refine L_false (by simpa using c2) ?_
        refine L_reg [21] (fun K hK => ?_)
        simp [hul, hvl]
        apply hK; clear hK K
        by_cases c3 : a.length = b.length
        · rw [if_pos c3] at h
          refine L_false (by simp; omega) ?_
          refine L_reg [4] (fun K hK => ?_)
          simp
          apply hK; clear hK K
          exact L_ret ⟨.inr rfl, _, rfl, h⟩
        · rw [if_neg c3] at h
          refine L_true (by simp; omega) ?_
          refine L_reg [4] (fun K hK => ?_)
          simp
          apply hK; clear hK K
          exact L_ret ⟨.inr rfl, _, rfl, h⟩
      · rw [if_neg c2] at h
        refine L_true (by simpa using c2) ?_
        refine L_reg [4] (fun K hK => ?_)
        simp
        apply hK; clear hK K
        exact L_ret ⟨.inr rfl, _, rfl, h⟩
    · rw [if_neg c1] at h
      refine L_true (by simpa using c1) ?_
      refine L_reg [4] (fun K hK => ?_)
      simp
      apply hK; clear hK K
      exact L_ret ⟨.inr rfl, _, rfl, h⟩
  · refine L_body 22 Try.func72 rfl rfl ?_
    refine L_reg [0, 1] (fun K hK => ?_)
    simp
    apply hK; clear hK K
    refine L_reg [0, 1, 5] (fun K hK => ?_)
    simp [okFn_low]
    refine CheckR_q a u hla _ hu _ ?_
    simp
    apply hK; clear hK K
    refine L_reg [0, 1, 5, 9] (fun K hK => ?_)
    simp
    apply hK; clear hK K
    by_cases c1 : chk a = 0
    · rw [if_pos c1] at h
      refine L_true (by simpa using c1) ?_
      refine L_reg [0, 1, 5] (fun K hK => ?_)
      simp [okFn_low]
      refine CheckR_q b v hlb _ hv _ ?_
      simp
      apply hK; clear hK K
      by_cases c2 : chk b = 0
      · rw [if_pos c2] at h
        rw [c2]
        refine L_reg [5, 20] (fun K hK => ?_)
        simp [pickV, hul, hvl]
        apply hK; clear hK K
        by_cases c3 : a.length = b.length
        · rw [if_pos c3] at h
          refine L_false (by simp; omega) ?_
          refine L_reg [4] (fun K hK => ?_)
          simp
          apply hK; clear hK K
          exact L_ret ⟨.inr rfl, _, rfl, h⟩
        · rw [if_neg c3] at h
          refine L_true (by simp; omega) ?_
          refine L_reg [5] (fun K hK => ?_)
          simp
          apply hK; clear hK K
          refine L_reg [4] (fun K hK => ?_)
          simp
          apply hK; clear hK K
          exact L_ret ⟨.inr rfl, _, rfl, h⟩
      · rw [if_neg c2] at h
        have c2' : (chk b == 0) = false := by simpa using c2
        refine L_reg [5, 20] (fun K hK => ?_)
        simp [pickV, c2']
        apply hK; clear hK K
        refine L_false rfl ?_
        refine L_reg [4] (fun K hK => ?_)
        simp
        apply hK; clear hK K
        exact L_ret ⟨.inr rfl, _, rfl, h⟩
    · rw [if_neg c1] at h
      have c1' : (chk a == 0) = false := by simpa using c1
      refine L_false (by simpa using c1) ?_
      refine L_reg [5, 20] (fun K hK => ?_)
      simp [pickV, c1']
      apply hK; clear hK K
      refine L_false rfl ?_
      refine L_reg [4] (fun K hK => ?_)
      simp
      apply hK; clear hK K
      exact L_ret ⟨.inr rfl, _, rfl, h⟩
/-- Whether one is finer. -/
def finB (a b : List Nat) : Bool := (List.range a.length).all fun i => (List.range i).all fun k => !(ga a i == ga a k) || ga b i == ga b k
theorem finB_iff {a b : List Nat} : finB a b = true ↔ ∀ i k, i < a.length → k < a.length → ga a i = ga a k → ga b i = ga b k := by
  unfold finB
  simp only [List.all_eq_true, List.mem_range, Bool.or_eq_true, Bool.not_eq_true', beq_iff_eq, beq_eq_false_iff_ne]
  constructor
  · intro h i k hi hk e
    rcases Nat.lt_trichotomy i k with c | rfl | c
    · exact ((h k hk i c).resolve_left (fun f => f e.symm)).symm
    · rfl
    · exact (h i hi k c).resolve_left (fun f => f e)
  · intro h i hi k hk
    by_cases e : ga a i = ga a k
    · exact .inr (h i k hi (by omega) e)
    · exact .inl e
theorem prs_ker {a b : List Nat} (hab : a.length = b.length) {i k : Nat} (hi : i < a.length) (hk : k < a.length) : (prs a b)[i]'(by rw [prs_len hab]; exact hi) = (prs a b)[k]'(by rw [prs_len hab]; exact hk) ↔ ga a i = ga a k ∧ ga b i = ga b k := by
  rw [prs_get hi (by omega), prs_get hk (by omega), ga_lt hi, ga_lt hk, ga_lt (l := b) (by omega), ga_lt (l := b) (by omega)]
  simp
  omega
theorem ga_dv {K : Type} [BEq K] [LawfulBEq K] {l : List K} {i k : Nat} (hi : i < l.length) (hk : k < l.length) : ga (dv l) i = ga (dv l) k ↔ l[i] = l[k] := by
  rw [ga_lt (by rw [dv_len]; exact hi), ga_lt (by rw [dv_len]; exact hk)]
  exact dv_ker l i k hi hk
/-- Together in Meet just if together in both. -/
theorem meet_ker {a b : List Nat} (hab : a.length = b.length) {i k : Nat} (hi : i < a.length) (hk : k < a.length) : ga (dv (prs a b)) i = ga (dv (prs a b)) k ↔ ga a i = ga a k ∧ ga b i = ga b k := by
  rw [ga_dv (by rw [prs_len hab]; exact hi) (by rw [prs_len hab]; exact hk)]
  exact prs_ker hab hi hk
theorem meet_self {a b : List Nat} (ha : OkD a) (hab : a.length = b.length) : dv (prs a b) = a ↔ finB a b = true := by
  rw [finB_iff]
  have hl := prs_len hab
  constructor
  · intro h i k hi hk e
    have := (meet_ker hab hi hk).1 (by rw [h]; exact e)
    exact this.2
  · intro h
    refine dv_eq _ _ hl ha.rg fun i k hi hk => ?_
    rw [prs_ker hab (by omega) (by omega), ← ga_lt (l := a) (by omega), ← ga_lt (l := a) (by omega)]
    exact ⟨fun h => h.1, fun e => ⟨e, h i k (by omega) (by omega) e⟩⟩
theorem Pair_bad (F : Nat) (hF : F = 31 ∨ F = 32 ∨ F = 33 ∨ F = 34) (a b : List Int) (u v : AV) (hla : a.length ≤ 1000000) (hlb : b.length ≤ 1000000) (hc : prE a b ≠ 0) (H : AH) (hu : Ls H u a) (hv : Ls H v b) (Q : AV → AH → Prop) (h : Q (.tuple [nilS, .int .i64 (prE a b)]) H) : AC Try.prog F [u, v] H Q := by
  rcases hF with rfl | rfl | rfl | rfl
  · refine L_body 40 Try.func31 rfl rfl ?_
    refine L_reg [0, 1] (fun K hK => ?_)
    simp
    apply hK; clear hK K
    refine L_reg [0, 1, 6] (fun K hK => ?_)
    simp [okFn_low]
    refine pair_q 69 (.inl rfl) a b u v hla hlb _ hu hv _ ?_
    simp
    apply hK; clear hK K
    refine L_reg [0, 1, 6, 14] (fun K hK => ?_)
    simp
    apply hK; clear hK K
    refine L_true (by simpa using hc) ?_
    refine L_reg [4, 5] (fun K hK => ?_)
    simp
    apply hK; clear hK K
    exact L_ret ⟨.inr rfl, _, rfl, h⟩
  · refine L_body 83 Try.func32 rfl rfl ?_
    refine L_reg [0, 1] (fun K hK => ?_)
    simp
    apply hK; clear hK K
    refine L_reg [0, 1, 6] (fun K hK => ?_)
    simp [okFn_low]
    refine pair_q 72 (.inr rfl) a b u v hla hlb _ hu hv _ ?_
    simp
    apply hK; clear hK K
    refine L_reg [0, 1, 6, 16] (fun K hK => ?_)
    simp
    apply hK; clear hK K
    refine L_true (by simpa using hc) ?_
    refine L_reg [4, 5] (fun K hK => ?_)
    simp
    apply hK; clear hK K
    exact L_ret ⟨.inr rfl, _, rfl, h⟩
  · refine L_body 16 Try.func33 rfl rfl ?_
    refine L_reg [0, 1] (fun K hK => ?_)
    simp
    apply hK; clear hK K
    refine L_reg [0, 1, 6] (fun K hK => ?_)
    simp [okFn_low]
    refine pair_q 69 (.inl rfl) a b u v hla hlb _ hu hv _ ?_
    simp
    apply hK; clear hK K
    refine L_reg [0, 1, 6, 11] (fun K hK => ?_)
    simp
    apply hK; clear hK K
    refine L_true (by simpa using hc) ?_
    refine L_reg [4, 5] (fun K hK => ?_)
    simp
    apply hK; clear hK K
    exact L_ret ⟨.inr rfl, _, rfl, h⟩
  · refine L_body 36 Try.func34 rfl rfl ?_
    refine L_reg [0, 1] (fun K hK => ?_)
    simp
    apply hK; clear hK K
    refine L_reg [0, 1, 6] (fun K hK => ?_)
    simp [okFn_low]
    refine pair_q 72 (.inr rfl) a b u v hla hlb _ hu hv _ ?_
    simp
    apply hK; clear hK K
    refine L_reg [0, 1, 6, 13] (fun K hK => ?_)
    simp
    apply hK; clear hK K
    refine L_true (by simpa using hc) ?_
    refine L_reg [4, 5] (fun K hK => ?_)
    simp
    apply hK; clear hK K
    exact L_ret ⟨.inr rfl, _, rfl, h⟩
theorem Finer_bad (F : Nat) (hF : F = 29 ∨ F = 30) (a b : List Int) (u v : AV) (hla : a.length ≤ 1000000) (hlb : b.length ≤ 1000000) (hc : prE a b ≠ 0) (H : AH) (hu : Ls H u a) (hv : Ls H v b) (Q : AV → AH → Prop) (h : Q (.tuple [.bool false, .int .i64 (prE a b)]) H) : AC Try.prog F [u, v] H Q := by
  rcases hF with rfl | rfl
  · refine L_body 18 Try.func29 rfl rfl ?_
    refine L_reg [0, 1] (fun K hK => ?_)
    simp
    apply hK; clear hK K
    refine L_reg [0, 1, 6] (fun K hK => ?_)
    simp [okFn_low]
    refine pair_q 69 (.inl rfl) a b u v hla hlb _ hu hv _ ?_
    simp
    apply hK; clear hK K
    refine L_reg [0, 1, 6, 11] (fun K hK => ?_)
    simp
    apply hK; clear hK K
    refine L_true (by simpa using hc) ?_
    refine L_reg [4, 5] (fun K hK => ?_)
    simp
    apply hK; clear hK K
    exact L_ret ⟨.inr rfl, _, rfl, h⟩
  · refine L_body 46 Try.func30 rfl rfl ?_
    refine L_reg [0, 1] (fun K hK => ?_)
    simp
    apply hK; clear hK K
    refine L_reg [0, 1, 6] (fun K hK => ?_)
    simp [okFn_low]
    refine pair_q 72 (.inr rfl) a b u v hla hlb _ hu hv _ ?_
    simp
    apply hK; clear hK K
    refine L_reg [0, 1, 6, 13] (fun K hK => ?_)
    simp
    apply hK; clear hK K
    refine L_true (by simpa using hc) ?_
    refine L_reg [4, 5] (fun K hK => ?_)
    simp
    apply hK; clear hK K
    exact L_ret ⟨.inr rfl, _, rfl, h⟩
theorem il9 {d : List Nat} (hd : OkD d) : (il d).length ≤ 1000000 := by rw [il_len]; have := hd.len; omega
theorem prE_ok {a b : List Nat} (ha : OkD a) (hb : OkD b) (hab : a.length = b.length) : prE (il a) (il b) = 0 := by unfold prE; rw [if_pos (chk_il ha), if_pos (chk_il hb), il_len, il_len, if_pos hab]
section
variable {a b : List Nat} (ha : OkD a) (hb : OkD b) (hab : a.length = b.length) (u v : AV) (H : AH) (hu : Ls H u (il a)) (hv : Ls H v (il b))
include ha hb hab hu hv
theorem Finer_ok (Q : AV → AH → Prop) (h : ∀ H', Ext H H' → Q (.tuple [.bool (finB a b), .int .i64 0]) H') : AC Try.prog 29 [u, v] H Q := by
  have hpe := prE_ok ha hb hab
  have h9' := ha.len
  have h9 := ha.len
  refine L_body 18 Try.func29 rfl rfl ?_
  refine L_reg [0, 1] (fun K hK => ?_)
  simp
  apply hK; clear hK K
  refine L_reg [0, 1, 6] (fun K hK => ?_)
  simp [okFn_low]
  refine pair_q 69 (.inl rfl) _ _ u v (il9 ha) (il9 hb) _ hu hv _ ?_
  simp [hpe]
  apply hK; clear hK K
  refine L_reg [0, 1, 6, 11] (fun K hK => ?_)
  simp
  apply hK; clear hK K
  refine L_false rfl ?_
  refine L_reg [4, 5] (fun K hK => ?_)
  simp [okFn_low]
  refine meet_ac ha hb hab u v H hu hv _ fun w H1 ho hE => ?_
  simp [okFn_low]
  refine Equal_q (il (dv (prs a b))) (il a) w u (by rw [il_len, dv_len, prs_len hab]; omega) _ (ownF_ls ho) (hu.ext hE) _ ?_
  have e : decide (il (dv (prs a b)) = il a) = finB a b := by
    rw [Bool.eq_iff_iff, decide_eq_true_eq, ← meet_self ha hab]
    exact ⟨il_inj, fun e => by rw [e]⟩
  rw [e]
  simp
  apply hK; clear hK K
  exact L_ret ⟨.inr rfl, _, rfl, h _ hE⟩
theorem Meet_ok (Q : AV → AH → Prop) (h : ∀ v' H', OwnF H.length H' v' ((il (dv (prs a b))).map (.int .i64)) → Ext H H' → Q (.tuple [v', .int .i64 0]) H') : AC Try.prog 33 [u, v] H Q := by
  have hpe := prE_ok ha hb hab
  have h9' := ha.len
  refine L_body 16 Try.func33 rfl rfl ?_
  refine L_reg [0, 1] (fun K hK => ?_)
  simp
  apply hK; clear hK K
  refine L_reg [0, 1, 6] (fun K hK => ?_)
  simp [okFn_low]
  refine pair_q 69 (.inl rfl) _ _ u v (il9 ha) (il9 hb) _ hu hv _ ?_
  simp [hpe]
  apply hK; clear hK K
  refine L_reg [0, 1, 6, 11] (fun K hK => ?_)
  simp
  apply hK; clear hK K
  refine L_false rfl ?_
  refine L_reg [4, 5] (fun K hK => ?_)
  simp [okFn_low]
  refine meet_ac ha hb hab u v H hu hv _ fun w H1 ho hE => ?_
  simp
  apply hK; clear hK K
  exact L_ret ⟨.inr rfl, _, rfl, h w H1 ho hE⟩
theorem FinerR_ok (Q : AV → AH → Prop) (h : Q (.tuple [.bool (finB a b), .int .i64 0]) H) : AC Try.prog 30 [u, v] H Q := by
  have hpe := prE_ok ha hb hab
  have h9' := ha.len
  have hul := ils_len hu
  refine L_body 46 Try.func30 rfl rfl ?_
  refine L_reg [0, 1] (fun K hK => ?_)
  simp
  apply hK; clear hK K
  refine L_reg [0, 1, 6] (fun K hK => ?_)
  simp [okFn_low]
  refine pair_q 72 (.inr rfl) _ _ u v (il9 ha) (il9 hb) _ hu hv _ ?_
  simp [hpe]
  apply hK; clear hK K
  refine L_reg [0, 1, 6, 13] (fun K hK => ?_)
  simp
  apply hK; clear hK K
  refine L_false rfl ?_
  refine L_reg [0, 1, 7] (fun K hK => ?_)
  simp
  apply hK; clear hK K
  refine L_block (L_loopV [7] (fun q vs H' => ∃ i : Nat, q = a.length - i ∧ i ≤ a.length ∧ vs = [.int .i64 i] ∧ H = H' ∧ ∀ i' k, i' < i → k < i' → ga a i' = ga a k → ga b i' = ga b k) _ [.int .i64 (0 : Nat)] rfl ⟨0, rfl, by omega, rfl, rfl, fun i' k h => by omega⟩ ?_)
  rintro q _ _ ⟨i, rfl, hi, rfl, rfl, hg⟩
  refine L_reg [0, 1, 7, 18] (fun K hK => ?_)
  simp [hul]
  apply hK; clear hK K
  refine L_dec (i < a.length) (by simp) (fun hlt => ?_) (fun hge => L_exit ?_)
  · refine L_block ?_
    obtain ⟨r1, p1, v1, x1, y1⟩ := il_ix hu hlt
    obtain ⟨r3, p3, v3, x3, y3⟩ := il_ix hv (i := i) (by omega)
    rw [← ga_lt hlt] at y1
    rw [← ga_lt (l := b) (by omega)] at y3
    refine L_reg [0, 1, 7, 8] (fun K hK => ?_)
    simp
    apply hK; clear hK K
    refine L_block (L_loopV [8] (fun q vs H' => ∃ k : Nat, q = i - k ∧ k ≤ i ∧ vs = [.int .i64 k] ∧ H = H' ∧ ∀ k', k' < k → ga a i = ga a k' → ga b i = ga b k') _ [.int .i64 (0 : Nat)] rfl ⟨0, rfl, by omega, rfl, rfl, fun k' h => by omega⟩ ?_)
    rintro q _ _ ⟨k, rfl, hk, rfl, rfl, hg2⟩
    refine L_reg [0, 1, 7, 8, 23] (fun K hK => ?_)
    simp
    apply hK; clear hK K
    refine L_dec (k < i) (by simp) (fun hki => ?_) (fun hkg => L_exit ?_)
    · refine L_block ?_
      obtain ⟨r2, p2, v2, x2, y2⟩ := il_ix hu (i := k) (by omega)
      obtain ⟨r4, p4, v4, x4, y4⟩ := il_ix hv (i := k) (by omega)
      rw [← ga_lt (l := a) (by omega)] at y2
      rw [← ga_lt (l := b) (by omega)] at y4
      have hq := hg2
      by_cases e1 : ga a i = ga a k
      · rw [e1] at y1
        by_cases e2 : ga b i = ga b k
        · rw [e2] at y3
          refine L_regT mixed [0, 1, 7, 8, 45] (by kernel_rfl) (fun K hK => ?_)
          simp [pickV, x1, x2, x3, x4, y1, y2, y3, y4]
          apply hK; clear hK K
          refine L_false rfl ?_
          refine L_reg [0, 1, 7, 8] (fun K hK => ?_)
          simp [wrap_i64 (a := (k : Int) + 1) (by omega)]
          apply hK; clear hK K
          exact ⟨i - (k + 1), [.int .i64 (k + 1 : Nat)], by omega, by simp, k + 1, rfl, by omega, rfl, rfl, fun k' hk' e => by
            by_cases c : k' = k
            · rw [c]; exact e2
            · exact hg2 k' (by omega) e⟩
        · have hf : finB a b = false := by
            rw [Bool.eq_false_iff]
            intro h
            exact e2 (finB_iff.1 h i k hlt (by omega) e1)
          rw [hf] at h
          have e2' : ((ga b i : Int) != (ga b k : Int)) = true := by simp; omega
          refine L_regT mixed [0, 1, 7, 8, 45] (by kernel_rfl) (fun K hK => ?_)
          simp [pickV, x1, x2, x3, x4, y1, y2, y3, y4, e2']
          apply hK; clear hK K
          refine L_true rfl ?_
          refine L_reg [4, 5] (fun K hK => ?_)
          simp
          apply hK; clear hK K
          exact L_ret ⟨.inr rfl, _, rfl, h⟩
      · have e1' : ((ga a i : Int) == (ga a k : Int)) = false := by simp; omega
        refine L_regT mixed [0, 1, 7, 8, 45] (by kernel_rfl) (fun K hK => ?_)
        simp [pickV, x1, x2, y1, y2, e1']
        apply hK; clear hK K
        refine L_false rfl ?_
        refine L_reg [0, 1, 7, 8] (fun K hK => ?_)
        simp [wrap_i64 (a := (k : Int) + 1) (by omega)]
        apply hK; clear hK K
        exact ⟨i - (k + 1), [.int .i64 (k + 1 : Nat)], by omega, by simp, k + 1, rfl, by omega, rfl, rfl, fun k' hk' e => by
          by_cases c : k' = k
          · rw [c] at e; exact absurd e e1
          · exact hg2 k' (by omega) e⟩
    · have e : k = i := by omega
      subst e
      refine L_reg [0, 1, 7] (fun K hK => ?_)
      simp [wrap_i64 (a := (k : Int) + 1) (by omega)]
      apply hK; clear hK K
      exact ⟨a.length - (k + 1), [.int .i64 (k + 1 : Nat)], by omega, by simp, k + 1, rfl, by omega, rfl, rfl, fun i' k' h1 h2 e => by
        by_cases c : i' = k
        · subst c; exact hg2 k' h2 e
        · exact hg i' k' (by omega) h2 e⟩
  · have e : i = a.length := by omega
    subst e
    have hf : finB a b = true := by
      rw [finB_iff]
      intro i k hi hk e
      rcases Nat.lt_trichotomy i k with c | rfl | c
      · exact (hg k i hk c e.symm).symm
      · rfl
      · exact hg i k hi c e
    rw [hf] at h
    refine L_reg [4, 5] (fun K hK => ?_)
    simp
    apply hK; clear hK K
    exact L_ret ⟨.inr rfl, _, rfl, h⟩
/-- One number for both rooms. -/
theorem MeetR_ok (Q : AV → AH → Prop) (h : ∀ v' H', OwnF H.length H' v' ((il (dv (prs a b))).map (.int .i64)) → Ext H H' → Q (.tuple [v', .int .i64 0]) H') : AC Try.prog 34 [u, v] H Q := by
  have hpe := prE_ok ha hb hab
  have h9' := ha.len
  have h9 := ha.len
  obtain ⟨L, hL⟩ : ∃ L : List Int, List.zipWith (fun x y : Nat => ((x * 9 + y : Nat) : Int)) a b = L := ⟨_, rfl⟩
  have hLl : L.length = a.length := by rw [← hL]; simp; omega
  have hLg : ∀ i (hi : i < a.length), L[i]'(by omega) = ((ga a i * 9 + ga b i : Nat) : Int) := fun i hi => by
    subst hL
    rw [ga_lt hi, ga_lt (l := b) (by omega)]
    simp
  have hbl : ∀ i, i < a.length → ga b i < 9 := fun i hi => by rw [ga_lt (by omega)]; exact hb.lt _ (List.getElem_mem _)
  have hal : ∀ i, i < a.length → ga a i < 9 := fun i hi => by rw [ga_lt (by omega)]; exact ha.lt _ (List.getElem_mem _)
  have hdv : dv L = dv (prs a b) := by
    refine dv_congr _ _ (by rw [hLl, prs_len hab]) fun i j hi hj => ?_
    rw [prs_ker hab (by omega) (by omega), hLg i (by omega), hLg j (by omega)]
    have := hbl i (by omega)
    have := hbl j (by omega)
    omega
  refine L_body 36 Try.func34 rfl rfl ?_
  refine L_reg [0, 1] (fun K hK => ?_)
  simp
  apply hK; clear hK K
  refine L_reg [0, 1, 6] (fun K hK => ?_)
  simp [okFn_low]
  refine pair_q 72 (.inr rfl) _ _ u v (il9 ha) (il9 hb) _ hu hv _ ?_
  simp [hpe]
  apply hK; clear hK K
  refine L_reg [0, 1, 6, 13] (fun K hK => ?_)
  simp
  apply hK; clear hK K
  refine L_false rfl ?_
  refine L_reg [0, 1, 7] (fun K hK => ?_)
  simp
  apply hK; clear hK K
  refine L_reg [0, 1, 7, 8] (fun K hK => ?_)
  simp
  apply hK; clear hK K
  refine L_block (L_loopV [7, 8] (fun q vs H' => ∃ (i : Nat) (w : AV), q = a.length - i ∧ i ≤ a.length ∧ vs = [w, .int .i64 i] ∧ Ext H H' ∧ OwnF H.length H' w ((L.take i).map (.int .i64))) _ [.slice none 0 0 0 1 false, .int .i64 (0 : Nat)] rfl ⟨0, _, rfl, by omega, rfl, .refl _, OwnF.nil _ _⟩ ?_)
  rintro q _ H1 ⟨i, w, rfl, hi, rfl, hE, ho⟩
  have hu1 := hu.ext hE
  have hv1 := hv.ext hE
  have hul := ils_len hu1
  refine L_reg [0, 1, 7, 8, 18] (fun K hK => ?_)
  simp [hul]
  apply hK; clear hK K
  refine L_dec (i < a.length) (by simp) (fun hlt => ?_) (fun hge => L_exit ?_)
  · refine L_block ?_
    obtain ⟨r1, p1, v1, x1, y1⟩ := il_ix hu1 hlt
    obtain ⟨r3, p3, v3, x3, y3⟩ := il_ix hv1 (i := i) (by omega)
    rw [← ga_lt hlt] at y1
    rw [← ga_lt (l := b) (by omega)] at y3
    have b1 := hal i hlt
    have b2 := hbl i hlt
    have hLi := hLg i hlt
    obtain ⟨w', H3, happ, ho3, hE3⟩ := ownF_append (P := Try.prog) (m := 1) (x := .int .i64 ((ga a i : Int) * 9 + (ga b i : Int))) hE el22 el22 ho rfl (by simp; omega)
    refine L_regT mixed [0, 1, 7, 8] (by kernel_rfl) (fun K hK => ?_)
    simp [x1, y1, x3, y3, wrap_i64 (a := (ga a i : Int) * 9) (by omega), wrap_i64 (a := (ga a i : Int) * 9 + (ga b i : Int)) (by omega), happ]
    apply hK; clear hK K
    refine L_reg [0, 1, 7, 8] (fun K hK => ?_)
    simp [wrap_i64 (a := (i : Int) + 1) (by omega)]
    apply hK; clear hK K
    refine ⟨a.length - (i + 1), [w', .int .i64 (i + 1 : Nat)], by omega, by simp, i + 1, w', rfl, by omega, rfl, hE3, ?_⟩
    rw [← List.take_append_getElem (by omega), List.map_append, hLi]
    simpa using ho3
  · have e : i = a.length := by omega
    subst e
    rw [← hLl, List.take_length] at ho
    refine L_reg [4, 5] (fun K hK => ?_)
    simp [okFn_low]
    refine of_ac L w (by omega) _ (ownF_ls ho) _ fun v' H' ho2 hE2 => ?_
    simp
    apply hK; clear hK K
    rw [hdv] at ho2
    exact L_ret ⟨.inr rfl, _, rfl, h v' H' (ho2.mono hE.1) (hE.trans hE2)⟩
end
end Go.Proofs.Ytjaefngmidllgaa.St
