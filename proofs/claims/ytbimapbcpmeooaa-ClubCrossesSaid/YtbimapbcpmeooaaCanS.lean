/- Can, Why, Proves: both ways answer alike. -/
import Derived.Test.YtbimapbcpmeooaaCanR
namespace Go.Proofs.Ytbimapbcpmeooaa.Cl
open Go Go.Proofs.Ytbimapbcpmeooaa Go.Proofs.Ytbimapbcpmeooaa.AX
set_option maxRecDepth 100000
set_option linter.unusedVariables false
theorem bne0 (x : Int) : (x != 0) = !decide (x = 0) := by rw [bne, Bool.beq_eq_decide_eq]
theorem can_q (c : List Nat) (v : AV) (hb : ∀ x ∈ c, x ≤ 8) (h8 : c.length ≤ 8) (H : AH) (hv : Ls H v (il c)) (Q : AV → AH → Prop) (h : Q (.bool (canB c)) H) : AC Try.prog 61 [v] H Q := by
  have hle := sum_le8 hb
  have hw : IntKind.i64.wrap ((c.sum : Int) % 2) = (c.sum : Int) % 2 := wrap_i64 (by omega)
  have hr : ((c.sum : Int).tmod 2) = (c.sum : Int) % 2 := Int.tmod_eq_emod_of_nonneg (by omega)
  rw [canB_eq] at h
  refine L_body 12 Try.func61 rfl rfl ?_
  refine L_reg [0] (fun K hK => ?_)
  simp
  apply hK; clear hK K
  refine L_reg [2] (fun K hK => ?_)
  simp [okFn_low]
  refine sum_q c v hb h8 _ hv _ ?_
  by_cases e : c.sum % 2 = 0
  · have e2 : (c.sum : Int) % 2 = 0 := by omega
    simp [hr, e2, okFn_low]
    refine why_q c v hb h8 _ hv _ ?_
    simp [pickV, beq0]
    apply hK; clear hK K
    rw [decide_eq_true e, Bool.true_and] at h
    exact L_ret ⟨.inr rfl, _, rfl, h⟩
  · have e2 : ((c.sum : Int) % 2 == 0) = false := by rw [beq_eq_false_iff_ne]; omega
    have e3 : ¬ (c.sum : Int) % 2 = 0 := by omega
    have e4 : (c.sum : Int) % 2 = 1 := by omega
    simp [hr, e4, pickV]
    apply hK; clear hK K
    rw [decide_eq_false e, Bool.false_and] at h
    exact L_ret ⟨.inr rfl, _, rfl, h⟩
/-- What is known of counts that pass. -/
structure Okc (c : List Nat) : Prop where
  pos : 1 ≤ c.length
  le : c.length ≤ 8
  lt : ∀ x ∈ c, x < c.length
theorem Okc.b {c : List Nat} (h : Okc c) : ∀ x ∈ c, x ≤ 8 := fun x hx => by have := h.lt x hx; have := h.le; omega
theorem chk_okc {l : List Int} (h : chkC l = 0) : ∃ c : List Nat, l = il c ∧ Okc c := by
  obtain ⟨c, e, h1, h2, h3⟩ := chk_ok h
  exact ⟨c, e, h1, h2, h3⟩
theorem okc_chk {c : List Nat} (h : Okc c) : chkC (il c) = 0 := by
  have h1 := h.pos
  have h2 := h.le
  unfold chkC
  rw [il_len, if_neg (by omega), if_neg (by omega), if_pos]
  rw [List.all_eq_true]
  intro x hx
  obtain ⟨y, hy, rfl⟩ := List.mem_map.1 hx
  have := h.lt y hy
  simp [okE]; omega
theorem Can_q (l : List Int) (v : AV) (hlen : l.length ≤ 1000000) (H : AH) (hv : Ls H v l) (Q : AV → AH → Prop) (h1 : chkC l ≠ 0 → Q (.tuple [.bool false, .int .i64 (chkC l)]) H) (h2 : ∀ c, l = il c → Okc c → Q (.tuple [.bool (canB c), .int .i64 0]) H) : AC Try.prog 15 [v] H Q := by
  refine L_body 18 Try.func15 rfl rfl ?_
  refine L_reg [0] (fun K hK => ?_)
  simp
  apply hK; clear hK K
  refine L_reg [0, 4] (fun K hK => ?_)
  simp [okFn_low]
  refine Check_q l v hlen _ hv _ ?_
  simp
  apply hK; clear hK K
  refine L_reg [0, 4, 8] (fun K hK => ?_)
  simp
  apply hK; clear hK K
  refine L_dec (chkC l ≠ 0) (by simp [bne0]) (fun c1 => ?_) (fun c1 => ?_)
  · refine L_reg [2, 3] (fun K hK => ?_)
    simp
    apply hK; clear hK K
    exact L_ret ⟨.inr rfl, _, rfl, h1 c1⟩
  · obtain ⟨c, rfl, ho⟩ := chk_okc (Classical.not_not.1 c1)
    have h3 := h2 c rfl ho
    rw [canB_eq] at h3
    refine L_reg [2, 3] (fun K hK => ?_)
    simp [okFn_low]
    refine odd_q c v ho.b ho.le _ hv _ ?_
    by_cases e : c.sum % 2 = 1
    · simp [e, pickV]
      apply hK; clear hK K
      rw [decide_eq_false (by omega), Bool.false_and] at h3
      exact L_ret ⟨.inr rfl, _, rfl, h3⟩
    · have e5 : decide (c.sum % 2 = 1) = false := decide_eq_false e
      simp [e5, okFn_low]
      refine first_q c v ho.b ho.le _ hv _ ?_
      simp [pickV, beq0]
      apply hK; clear hK K
      rw [decide_eq_true (show c.sum % 2 = 0 by omega), Bool.true_and] at h3
      exact L_ret ⟨.inr rfl, _, rfl, h3⟩
theorem CanR_q (l : List Int) (v : AV) (hlen : l.length ≤ 1000000) (H : AH) (hv : Ls H v l) (Q : AV → AH → Prop) (h1 : chkC l ≠ 0 → Q (.tuple [.bool false, .int .i64 (chkC l)]) H) (h2 : ∀ c, l = il c → Okc c → Q (.tuple [.bool (canB c), .int .i64 0]) H) : AC Try.prog 16 [v] H Q := by
  refine L_body 12 Try.func16 rfl rfl ?_
  refine L_reg [0] (fun K hK => ?_)
  simp
  apply hK; clear hK K
  refine L_reg [0, 4] (fun K hK => ?_)
  simp [okFn_low]
  refine CheckR_q l v hlen _ hv _ ?_
  simp
  apply hK; clear hK K
  refine L_reg [0, 4, 8] (fun K hK => ?_)
  simp
  apply hK; clear hK K
  refine L_dec (chkC l ≠ 0) (by simp [bne0]) (fun c1 => ?_) (fun c1 => ?_)
  · refine L_reg [2, 3] (fun K hK => ?_)
    simp
    apply hK; clear hK K
    exact L_ret ⟨.inr rfl, _, rfl, h1 c1⟩
  · obtain ⟨c, rfl, ho⟩ := chk_okc (Classical.not_not.1 c1)
    refine L_reg [2, 3] (fun K hK => ?_)
    simp [okFn_low]
    refine can_q c v ho.b ho.le _ hv _ ?_
    simp
    apply hK; clear hK K
    exact L_ret ⟨.inr rfl, _, rfl, h2 c rfl ho⟩
/-- What Why answers of counts that pass. -/
def whyA (c : List Nat) : Int × Int := if c.sum % 2 = 1 then (0, 17) else if fstA c = 0 then (0, 13) else (fstA c, 0)
theorem Why_q (l : List Int) (v : AV) (hlen : l.length ≤ 1000000) (H : AH) (hv : Ls H v l) (Q : AV → AH → Prop) (h1 : chkC l ≠ 0 → Q (.tuple [.int .i64 0, .int .i64 (chkC l)]) H) (h2 : ∀ c, l = il c → Okc c → Q (.tuple [.int .i64 (whyA c).1, .int .i64 (whyA c).2]) H) : AC Try.prog 17 [v] H Q := by
  refine L_body 18 Try.func17 rfl rfl ?_
  refine L_reg [0] (fun K hK => ?_)
  simp
  apply hK; clear hK K
  refine L_reg [0, 4] (fun K hK => ?_)
  simp [okFn_low]
  refine Check_q l v hlen _ hv _ ?_
  simp
  apply hK; clear hK K
  refine L_reg [0, 4, 9] (fun K hK => ?_)
  simp
  apply hK; clear hK K
  refine L_dec (chkC l ≠ 0) (by simp [bne0]) (fun c1 => ?_) (fun c1 => ?_)
  · refine L_reg [2, 3] (fun K hK => ?_)
    simp
    apply hK; clear hK K
    exact L_ret ⟨.inr rfl, _, rfl, h1 c1⟩
  · obtain ⟨c, rfl, ho⟩ := chk_okc (Classical.not_not.1 c1)
    have h3 := h2 c rfl ho
    unfold whyA at h3
    refine L_reg [0, 12] (fun K hK => ?_)
    simp [okFn_low]
    refine odd_q c v ho.b ho.le _ hv _ ?_
    simp
    apply hK; clear hK K
    refine L_dec (c.sum % 2 = 1) (by simp) (fun e => ?_) (fun e => ?_)
    · rw [if_pos e] at h3
      refine L_reg [2, 3] (fun K hK => ?_)
      simp
      apply hK; clear hK K
      exact L_ret ⟨.inr rfl, _, rfl, h3⟩
    · rw [if_neg e] at h3
      refine L_reg [5] (fun K hK => ?_)
      simp [okFn_low]
      refine first_q c v ho.b ho.le _ hv _ ?_
      simp
      apply hK; clear hK K
      refine L_reg [5, 16] (fun K hK => ?_)
      simp
      apply hK; clear hK K
      refine L_dec (fstA c = 0) (by simp [beq0]) (fun e2 => ?_) (fun e2 => ?_)
      · rw [if_pos e2] at h3
        refine L_reg [2, 3] (fun K hK => ?_)
        simp
        apply hK; clear hK K
        exact L_ret ⟨.inr rfl, _, rfl, h3⟩
      · rw [if_neg e2] at h3
        refine L_reg [2, 3] (fun K hK => ?_)
        simp
        apply hK; clear hK K
        exact L_ret ⟨.inr rfl, _, rfl, h3⟩
theorem whyA_can (c : List Nat) : canB c = true ↔ c.sum % 2 = 0 ∧ fstA c = 0 := by rw [canB_eq, Bool.and_eq_true, decide_eq_true_eq, decide_eq_true_eq]
theorem WhyR_q (l : List Int) (v : AV) (hlen : l.length ≤ 1000000) (H : AH) (hv : Ls H v l) (Q : AV → AH → Prop) (h1 : chkC l ≠ 0 → Q (.tuple [.int .i64 0, .int .i64 (chkC l)]) H) (h2 : ∀ c, l = il c → Okc c → Q (.tuple [.int .i64 (whyA c).1, .int .i64 (whyA c).2]) H) : AC Try.prog 18 [v] H Q := by
  refine L_body 26 Try.func18 rfl rfl ?_
  refine L_reg [0] (fun K hK => ?_)
  simp
  apply hK; clear hK K
  refine L_reg [0, 4] (fun K hK => ?_)
  simp [okFn_low]
  refine CheckR_q l v hlen _ hv _ ?_
  simp
  apply hK; clear hK K
  by_cases c1 : chkC l = 0
  · obtain ⟨c, rfl, ho⟩ := chk_okc c1
    have h3 := h2 c rfl ho
    unfold whyA at h3
    rw [c1]
    have hle := sum_le8 ho.b
    have hw : IntKind.i64.wrap ((c.sum : Int) % 2) = (c.sum : Int) % 2 := wrap_i64 (by omega)
    have hr : ((c.sum : Int).tmod 2) = (c.sum : Int) % 2 := Int.tmod_eq_emod_of_nonneg (by omega)
    have hcan := whyA_can c
    refine L_reg [0, 4, 12] (fun K hK => ?_)
    simp [okFn_low]
    refine can_q c v ho.b ho.le _ hv _ ?_
    simp [pickV]
    apply hK; clear hK K
    refine L_dec (canB c = true) (by simp) (fun e => ?_) (fun e => ?_)
    · obtain ⟨e1, e2⟩ := hcan.1 e
      rw [if_neg (by omega), if_pos e2] at h3
      refine L_reg [0, 4] (fun K hK => ?_)
      simp
      apply hK; clear hK K
      refine L_reg [0, 4, 20] (fun K hK => ?_)
      simp [pickV]
      apply hK; clear hK K
      refine L_false (by simp) ?_
      refine L_reg [0, 4, 22] (fun K hK => ?_)
      simp
      apply hK; clear hK K
      refine L_true (by simp) ?_
      refine L_reg [2, 3] (fun K hK => ?_)
      simp
      apply hK; clear hK K
      exact L_ret ⟨.inr rfl, _, rfl, h3⟩
    · have e5 : ((c.sum : Int) % 2 == 1) = decide (c.sum % 2 = 1) := by rw [Bool.eq_iff_iff, beq_iff_eq, decide_eq_true_eq]; omega
      refine L_reg [0, 4, 20] (fun K hK => ?_)
      simp [okFn_low]
      refine sum_q c v ho.b ho.le _ hv _ ?_
      simp [pickV, hr, e5]
      apply hK; clear hK K
      refine L_dec (c.sum % 2 = 1) (by simp) (fun e => ?_) (fun e => ?_)
      · rw [if_pos e] at h3
        refine L_reg [0, 4] (fun K hK => ?_)
        simp
        apply hK; clear hK K
        refine L_reg [0, 4, 22] (fun K hK => ?_)
        simp
        apply hK; clear hK K
        refine L_true (by simp) ?_
        refine L_reg [2, 3] (fun K hK => ?_)
        simp
        apply hK; clear hK K
        exact L_ret ⟨.inr rfl, _, rfl, h3⟩
      · rw [if_neg e, if_neg (fun e2 => ‹¬ canB c = true› (hcan.2 ⟨by omega, e2⟩))] at h3
        refine L_reg [0, 4, 22] (fun K hK => ?_)
        simp
        apply hK; clear hK K
        refine L_false (by simp) ?_
        refine L_reg [2, 3] (fun K hK => ?_)
        simp [okFn_low]
        refine why_q c v ho.b ho.le _ hv _ ?_
        simp
        apply hK; clear hK K
        exact L_ret ⟨.inr rfl, _, rfl, h3⟩
  · have c2 : (chkC l == 0) = false := by simpa using c1
    refine L_reg [0, 4, 12] (fun K hK => ?_)
    simp [c2, pickV]
    apply hK; clear hK K
    refine L_false (by simp) ?_
    refine L_reg [0, 4, 20] (fun K hK => ?_)
    simp [c2, pickV]
    apply hK; clear hK K
    refine L_false (by simp) ?_
    refine L_reg [0, 4, 22] (fun K hK => ?_)
    simp
    apply hK; clear hK K
    refine L_true (by simpa using c1) ?_
    refine L_reg [2, 3] (fun K hK => ?_)
    simp
    apply hK; clear hK K
    exact L_ret ⟨.inr rfl, _, rfl, h1 c1⟩
/-- What Proves answers. -/
def prvA (l : List Int) (k : Int) : Int := if chkC l ≠ 0 then chkC l else if k < 1 ∨ (l.length : Int) < k then 1 else if agn (l.map Int.toNat) k.toNat = true then 0 else 14
theorem il_nat (c : List Nat) : (il c).map Int.toNat = c := by simp [il, Function.comp_def]
theorem Proves_q (l : List Int) (k : Int) (v : AV) (hlen : l.length ≤ 1000000) (H : AH) (hv : Ls H v l) (Q : AV → AH → Prop) (h : Q (.int .i64 (prvA l k)) H) : AC Try.prog 19 [v, .int .i64 k] H Q := by
  have hvl := ls_len hv
  unfold prvA at h
  refine L_body 23 Try.func19 rfl rfl ?_
  refine L_reg [0, 1] (fun K hK => ?_)
  simp
  apply hK; clear hK K
  refine L_reg [0, 1, 5] (fun K hK => ?_)
  simp [okFn_low]
  refine Check_q l v hlen _ hv _ ?_
  simp
  apply hK; clear hK K
  refine L_reg [0, 1, 5, 9] (fun K hK => ?_)
  simp
  apply hK; clear hK K
  refine L_dec (chkC l ≠ 0) (by simp [bne0]) (fun c1 => ?_) (fun c1 => ?_)
  · rw [if_pos c1] at h
    refine L_reg [4] (fun K hK => ?_)
    simp
    apply hK; clear hK K
    exact L_ret ⟨.inr rfl, _, rfl, h⟩
  rw [if_neg c1] at h
  by_cases k1 : k < 1
  · refine L_reg [0, 1, 18] (fun K hK => ?_)
    simp [k1, pickV]
    apply hK; clear hK K
    refine L_true (by simp) ?_
    rw [if_pos (.inl k1)] at h
    refine L_reg [4] (fun K hK => ?_)
    simp
    apply hK; clear hK K
    exact L_ret ⟨.inr rfl, _, rfl, h⟩
  have k1' : decide (k < 1) = false := decide_eq_false k1
  refine L_reg [0, 1, 18] (fun K hK => ?_)
  simp [k1, hvl, pickV]
  apply hK; clear hK K
  refine L_dec ((l.length : Int) < k) (by simp) (fun k2 => ?_) (fun k2 => ?_)
  · rw [if_pos (.inr k2)] at h
    refine L_reg [4] (fun K hK => ?_)
    simp
    apply hK; clear hK K
    exact L_ret ⟨.inr rfl, _, rfl, h⟩
  rw [if_neg (by omega)] at h
  obtain ⟨c, rfl, ho⟩ := chk_okc (Classical.not_not.1 c1)
  rw [il_nat] at h
  rw [il_len] at k2
  obtain ⟨j, rfl⟩ : ∃ j : Nat, k = j := ⟨k.toNat, by omega⟩
  rw [Int.toNat_natCast] at h
  refine L_reg [22] (fun K hK => ?_)
  simp [okFn_low]
  refine against_q c j v (by omega) (by omega) ho.b ho.le _ hv _ ?_
  simp
  apply hK; clear hK K
  by_cases ca : agn c j = true
  · rw [if_pos ca] at h
    refine L_false (by simpa using ca) ?_
    refine L_reg [4] (fun K hK => ?_)
    simp
    apply hK; clear hK K
    exact L_ret ⟨.inr rfl, _, rfl, h⟩
  · rw [if_neg ca] at h
    refine L_true (by simpa using ca) ?_
    refine L_reg [4] (fun K hK => ?_)
    simp
    apply hK; clear hK K
    exact L_ret ⟨.inr rfl, _, rfl, h⟩
theorem ProvesR_q (l : List Int) (k : Int) (v : AV) (hlen : l.length ≤ 1000000) (H : AH) (hv : Ls H v l) (Q : AV → AH → Prop) (h : Q (.int .i64 (prvA l k)) H) : AC Try.prog 20 [v, .int .i64 k] H Q := by
  have hvl := ls_len hv
  unfold prvA at h
  refine L_body 26 Try.func20 rfl rfl ?_
  refine L_reg [0, 1] (fun K hK => ?_)
  simp
  apply hK; clear hK K
  refine L_reg [0, 1, 5] (fun K hK => ?_)
  simp [okFn_low]
  refine CheckR_q l v hlen _ hv _ ?_
  simp
  apply hK; clear hK K
  by_cases c1 : chkC l ≠ 0
  · rw [if_pos c1] at h
    have c2 : (chkC l == 0) = false := by simpa using c1
    refine L_reg [0, 1, 5, 16] (fun K hK => ?_)
    simp [c2, pickV]
    apply hK; clear hK K
    refine L_false (by simp) ?_
    refine L_reg [5, 24] (fun K hK => ?_)
    simp [c2, pickV]
    apply hK; clear hK K
    refine L_false (by simp) ?_
    refine L_reg [4] (fun K hK => ?_)
    simp
    apply hK; clear hK K
    exact L_ret ⟨.inr rfl, _, rfl, h⟩
  rw [if_neg c1] at h
  have c1 := Classical.not_not.1 c1
  rw [c1]
  refine L_reg [0, 1, 5, 16] (fun K hK => ?_)
  simp [okFn_low, hvl]
  refine in_ac k 1 (l.length : Int) _ _ ?_
  simp [pickV]
  apply hK; clear hK K
  by_cases k1 : 1 ≤ k ∧ k ≤ l.length
  · rw [if_neg (by omega)] at h
    have k2 : (decide (1 ≤ k) && decide (k ≤ (l.length : Int))) = true := by simp; omega
    refine L_false (by simpa using k2) ?_
    obtain ⟨c, rfl, ho⟩ := chk_okc c1
    rw [il_nat] at h
    rw [il_len] at k1
    obtain ⟨j, rfl⟩ : ∃ j : Nat, k = j := ⟨k.toNat, by omega⟩
    rw [Int.toNat_natCast] at h
    refine L_reg [5, 24] (fun K hK => ?_)
    simp [okFn_low]
    refine stands_q c j v (by omega) (by omega) ho.b ho.le _ hv _ ?_
    simp [pickV]
    apply hK; clear hK K
    by_cases ca : agn c j = true
    · rw [if_pos ca] at h
      refine L_false (by simpa using ca) ?_
      refine L_reg [4] (fun K hK => ?_)
      simp
      apply hK; clear hK K
      exact L_ret ⟨.inr rfl, _, rfl, h⟩
    · rw [if_neg ca] at h
      refine L_true (by simpa using ca) ?_
      refine L_reg [5] (fun K hK => ?_)
      simp
      apply hK; clear hK K
      refine L_reg [4] (fun K hK => ?_)
      simp
      apply hK; clear hK K
      exact L_ret ⟨.inr rfl, _, rfl, h⟩
  · rw [if_pos (by omega)] at h
    have k2 : k < 1 ∨ (l.length : Int) < k := by omega
    refine L_true (by simpa using k2) ?_
    refine L_reg [0, 1, 5] (fun K hK => ?_)
    simp
    apply hK; clear hK K
    refine L_reg [5, 24] (fun K hK => ?_)
    simp [pickV]
    apply hK; clear hK K
    refine L_false (by simp) ?_
    refine L_reg [4] (fun K hK => ?_)
    simp
    apply hK; clear hK K
    exact L_ret ⟨.inr rfl, _, rfl, h⟩
end Go.Proofs.Ytbimapbcpmeooaa.Cl
