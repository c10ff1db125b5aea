/- Counts are checked; sums, and what stands against counts: the program's way and the reference's. -/
import Derived.Test.YtbimapbcpmeooaaSrt2
import Derived.Test.YtbimapbcpmeooaaCanM
namespace Go.Proofs.Ytbimapbcpmeooaa.Cl
open Go Go.Proofs.Ytbimapbcpmeooaa Go.Proofs.Ytbimapbcpmeooaa.AX
set_option maxRecDepth 100000
set_option linter.unusedVariables false
def okE (n : Nat) (x : Int) : Bool := decide (0 ≤ x) && decide (x < n)
/-- The error of counts. -/
def chkC (l : List Int) : Int := if l.length = 0 then 4 else if 8 < l.length then 3 else if l.all (okE l.length) then 0 else 1
theorem chk_ok {l : List Int} (h : chkC l = 0) : ∃ c : List Nat, l = il c ∧ 1 ≤ c.length ∧ c.length ≤ 8 ∧ ∀ x ∈ c, x < c.length := by
  unfold chkC at h
  split at h; · cases h
  split at h; · cases h
  split at h
  · rename_i h1 h2 h3
    rw [List.all_eq_true] at h3
    refine ⟨l.map Int.toNat, ?_, by simp; omega, by simp; omega, fun x hx => ?_⟩
    · apply List.ext_getElem (by simp [il])
      intro i h4 h5
      have := h3 l[i] (List.getElem_mem h4)
      simp [okE] at this
      simp [il]; omega
    · obtain ⟨y, hy, rfl⟩ := List.mem_map.1 hx
      have := h3 y hy
      simp [okE] at this
      simp; omega
  · cases h
theorem all_take {l : List Int} {p : Int → Bool} {i : Nat} (h : i < l.length) : (l.take (i + 1)).all p = ((l.take i).all p && p l[i]) := by
  rw [List.take_add_one, List.getElem?_eq_getElem h, List.all_append]; simp
theorem not_all {l : List Int} {p : Int → Bool} {i : Nat} (h : i < l.length) (hp : p l[i] = false) : ¬ l.all p = true := by
  rw [List.all_eq_true]
  intro hc
  rw [hc _ (List.getElem_mem h)] at hp
  cases hp
theorem beq0 (n : Nat) : ((n : Int) == 0) = decide (n = 0) := by rw [Bool.eq_iff_iff, beq_iff_eq, decide_eq_true_eq]; omega
theorem Check_q (l : List Int) (v : AV) (hlen : l.length ≤ 1000000) (H : AH) (hv : Ls H v l) (Q : AV → AH → Prop) (h : Q (.int .i64 (chkC l)) H) : AC Try.prog 21 [v] H Q := by
  have hvl := ls_len hv
  unfold chkC at h
  refine L_body 26 Try.func21 rfl rfl ?_
  refine L_reg [0] (fun K hK => ?_)
  simp
  apply hK; clear hK K
  refine L_reg [0, 7] (fun K hK => ?_)
  simp [hvl]
  apply hK; clear hK K
  refine L_dec (l.length = 0) (by simp [-List.length_eq_zero_iff, beq0]) (fun h0 => ?_) (fun h0 => ?_)
  · refine L_reg [2] (fun K hK => ?_)
    simp
    apply hK; clear hK K
    rw [if_pos h0] at h
    exact L_ret ⟨.inr rfl, _, rfl, h⟩
  rw [if_neg h0] at h
  refine L_reg [0, 10] (fun K hK => ?_)
  simp [hvl]
  apply hK; clear hK K
  refine L_dec (8 < l.length) (by simp; omega) (fun h8 => ?_) (fun h8 => ?_)
  · refine L_reg [2] (fun K hK => ?_)
    simp
    apply hK; clear hK K
    rw [if_pos h8] at h
    exact L_ret ⟨.inr rfl, _, rfl, h⟩
  rw [if_neg h8] at h
  refine L_reg [0, 11, 12, 13] (fun K hK => ?_)
  simp [hvl]
  apply hK; clear hK K
  refine L_block (L_loopV [13] (fun q vs H' => ∃ (i : Nat), q = l.length - i ∧ i ≤ l.length ∧ vs = [.int .i64 i] ∧ H = H' ∧ (l.take i).all (okE l.length) = true) _ [.int .i64 (0 : Nat)] rfl ⟨0, rfl, by omega, rfl, rfl, rfl⟩ ?_)
  rintro q _ _ ⟨i, rfl, hi, rfl, rfl, ha⟩
  refine L_reg [0, 11, 12, 13, 14] (fun K hK => ?_)
  simp
  apply hK; clear hK K
  refine L_dec (i < l.length) (by simp) (fun hlt => ?_) (fun hge => L_exit ?_)
  · refine L_block ?_
    obtain ⟨rz, pz, vz, hix, hldz⟩ := ls_ix hv hlt
    have hat := all_take (p := okE l.length) hlt
    have hna := not_all (p := okE l.length) hlt
    generalize l[i] = x at hldz hat hna
    refine L_reg [0, 4, 11, 12, 13] (fun K hK => ?_)
    simp [hix, hldz]
    apply hK; clear hK K
    by_cases c1 : x < 0
    · refine L_reg [0, 11, 12, 13, 24] (fun K hK => ?_)
      simp [c1, pickV]
      apply hK; clear hK K
      refine L_true (by simp) ?_
      rw [if_neg (hna (by simp [okE]; omega))] at h
      refine L_reg [2] (fun K hK => ?_)
      simp
      apply hK; clear hK K
      exact L_ret ⟨.inr rfl, _, rfl, h⟩
    · have c1' : decide (x < 0) = false := by simpa using c1
      refine L_reg [0, 11, 12, 13, 24] (fun K hK => ?_)
      simp [hvl, c1, pickV]
      apply hK; clear hK K
      refine L_dec ((l.length : Int) ≤ x) (by simp) (fun c2 => ?_) (fun c2 => ?_)
      · rw [if_neg (hna (by simp [okE]; omega))] at h
        refine L_reg [2] (fun K hK => ?_)
        simp
        apply hK; clear hK K
        exact L_ret ⟨.inr rfl, _, rfl, h⟩
      · refine L_reg [0, 11, 12, 13] (fun K hK => ?_)
        simp [wrap_i64 (a := (i : Int) + 1) (by omega)]
        apply hK; clear hK K
        exact ⟨l.length - (i + 1), [.int .i64 (i + 1 : Nat)], by omega, by simp, i + 1, rfl, by omega, rfl, rfl, by rw [hat, ha]; simp [okE]; omega⟩
  · have e : i = l.length := by omega
    subst e
    rw [List.take_length] at ha
    rw [if_pos ha] at h
    refine L_reg [2] (fun K hK => ?_)
    simp
    apply hK; clear hK K
    exact L_ret ⟨.inr rfl, _, rfl, h⟩
theorem in_ac (n a b : Int) (H : AH) (Q : AV → AH → Prop) (h : Q (.bool (decide (a ≤ n) && decide (n ≤ b))) H) : AC Try.prog 65 [.int .i64 n, .int .i64 a, .int .i64 b] H Q := by
  refine L_body 15 Try.func65 rfl rfl ?_
  refine L_reg [0, 1, 2] (fun K hK => ?_)
  simp
  apply hK; clear hK K
  by_cases c : a ≤ n
  · refine L_reg [6] (fun K hK => ?_)
    simp [c, pickV]
    apply hK; clear hK K
    exact L_ret ⟨.inr rfl, _, rfl, by simpa [c] using h⟩
  · have c' : decide (a ≤ n) = false := by simpa using c
    refine L_reg [6] (fun K hK => ?_)
    simp [c, pickV]
    apply hK; clear hK K
    exact L_ret ⟨.inr rfl, _, rfl, by simpa [c] using h⟩
theorem CheckR_q (l : List Int) (v : AV) (hlen : l.length ≤ 1000000) (H : AH) (hv : Ls H v l) (Q : AV → AH → Prop) (h : Q (.int .i64 (chkC l)) H) : AC Try.prog 22 [v] H Q := by
  have hvl := ls_len hv
  unfold chkC at h
  refine L_body 25 Try.func22 rfl rfl ?_
  refine L_reg [0] (fun K hK => ?_)
  simp
  apply hK; clear hK K
  refine L_reg [0, 6] (fun K hK => ?_)
  simp [hvl]
  apply hK; clear hK K
  refine L_dec (l.length = 0) (by simp [-List.length_eq_zero_iff, beq0]) (fun h0 => ?_) (fun h0 => ?_)
  · refine L_reg [2] (fun K hK => ?_)
    simp
    apply hK; clear hK K
    rw [if_pos h0] at h
    exact L_ret ⟨.inr rfl, _, rfl, h⟩
  rw [if_neg h0] at h
  refine L_reg [0, 9] (fun K hK => ?_)
  simp [hvl]
  apply hK; clear hK K
  refine L_dec (8 < l.length) (by simp; omega) (fun h8 => ?_) (fun h8 => ?_)
  · refine L_reg [2] (fun K hK => ?_)
    simp
    apply hK; clear hK K
    rw [if_pos h8] at h
    exact L_ret ⟨.inr rfl, _, rfl, h⟩
  rw [if_neg h8] at h
  refine L_reg [0, 3] (fun K hK => ?_)
  simp
  apply hK; clear hK K
  refine L_block (L_loopV [3] (fun q vs H' => ∃ (i : Nat), q = l.length - i ∧ i ≤ l.length ∧ vs = [.int .i64 i] ∧ H = H' ∧ (l.take i).all (okE l.length) = true) _ [.int .i64 (0 : Nat)] rfl ⟨0, rfl, by omega, rfl, rfl, rfl⟩ ?_)
  rintro q _ _ ⟨i, rfl, hi, rfl, rfl, ha⟩
  refine L_reg [0, 3, 13] (fun K hK => ?_)
  simp [hvl]
  apply hK; clear hK K
  refine L_dec (i < l.length) (by simp) (fun hlt => ?_) (fun hge => L_exit ?_)
  · refine L_block ?_
    obtain ⟨rz, pz, vz, hix, hldz⟩ := ls_ix hv hlt
    have hat := all_take (p := okE l.length) hlt
    have hna := not_all (p := okE l.length) hlt
    generalize l[i] = x at hldz hat hna
    refine L_reg [0, 3, 24] (fun K hK => ?_)
    simp [okFn_low, hix, hldz, hvl, wrap_i64 (a := (l.length : Int) - 1) (by omega)]
    refine in_ac x 0 ((l.length : Int) - 1) _ _ ?_
    simp
    apply hK; clear hK K
    by_cases c : okE l.length x = true
    · have c2 : (decide (0 ≤ x) && decide (x ≤ (l.length : Int) - 1)) = true := by simp [okE] at c ⊢; omega
      refine L_false (by simpa using c2) ?_
      refine L_reg [0, 3] (fun K hK => ?_)
      simp [wrap_i64 (a := (i : Int) + 1) (by omega)]
      apply hK; clear hK K
      exact ⟨l.length - (i + 1), [.int .i64 (i + 1 : Nat)], by omega, by simp, i + 1, rfl, by omega, rfl, rfl, by rw [hat, ha, c]; rfl⟩
    · have c' : okE l.length x = false := by simpa using c
      have c2 : x < 0 ∨ (l.length : Int) - 1 < x := by simp [okE] at c'; omega
      refine L_true (by simpa using c2) ?_
      rw [if_neg (hna c')] at h
      refine L_reg [2] (fun K hK => ?_)
      simp
      apply hK; clear hK K
      exact L_ret ⟨.inr rfl, _, rfl, h⟩
  · have e : i = l.length := by omega
    subst e
    rw [List.take_length] at ha
    rw [if_pos ha] at h
    refine L_reg [2] (fun K hK => ?_)
    simp
    apply hK; clear hK K
    exact L_ret ⟨.inr rfl, _, rfl, h⟩
theorem sum_le8 : ∀ {c : List Nat}, (∀ x ∈ c, x ≤ 8) → c.sum ≤ 8 * c.length
  | [], _ => by simp
  | x :: c, h => by
    have h1 := sum_le8 (c := c) fun y hy => h y (by simp [hy])
    have h2 := h x (by simp)
    simp; omega
theorem sum_take {c : List Nat} {i : Nat} (h : i < c.length) : (c.take (i + 1)).sum = (c.take i).sum + c[i] := by
  rw [List.take_add_one, List.getElem?_eq_getElem h, List.sum_append]; simp
theorem take_le8 {c : List Nat} (hb : ∀ x ∈ c, x ≤ 8) (h8 : c.length ≤ 8) (i : Nat) : (c.take i).sum ≤ 64 := by
  have := sum_le8 (c := c.take i) fun x hx => hb x (List.mem_of_mem_take hx)
  rw [List.length_take] at this
  omega
theorem odd_q (c : List Nat) (v : AV) (hb : ∀ x ∈ c, x ≤ 8) (h8 : c.length ≤ 8) (H : AH) (hv : Ls H v (il c)) (Q : AV → AH → Prop) (h : Q (.bool (decide (c.sum % 2 = 1))) H) : AC Try.prog 59 [v] H Q := by
  have hvl := ils_len hv
  refine L_body 19 Try.func59 rfl rfl ?_
  refine L_reg [0] (fun K hK => ?_)
  simp
  apply hK; clear hK K
  refine L_reg [0, 3] (fun K hK => ?_)
  simp
  apply hK; clear hK K
  refine L_reg [3, 6, 7, 8] (fun K hK => ?_)
  simp [hvl]
  apply hK; clear hK K
  refine L_block (L_loopV [3, 8] (fun q vs H' => ∃ (i : Nat), q = c.length - i ∧ i ≤ c.length ∧ vs = [.int .i64 ((c.take i).sum : Nat), .int .i64 i] ∧ H = H') _ [.int .i64 (0 : Nat), .int .i64 (0 : Nat)] rfl ⟨0, rfl, by omega, rfl, rfl⟩ ?_)
  rintro q _ _ ⟨i, rfl, hi, rfl, rfl⟩
  refine L_reg [3, 6, 7, 8, 9] (fun K hK => ?_)
  simp
  apply hK; clear hK K
  have ht := take_le8 hb h8 i
  refine L_dec (i < c.length) (by simp) (fun hlt => ?_) (fun hge => L_exit ?_)
  · refine L_block ?_
    obtain ⟨rz, pz, vz, hix, hldz⟩ := il_ix hv hlt
    have hs := sum_take hlt
    have hx := hb _ (List.getElem_mem hlt)
    generalize c[i] = x at hldz hs hx
    obtain ⟨z, hz⟩ : ∃ z, (c.take i).sum = z := ⟨_, rfl⟩
    rw [hz] at hs ht ⊢
    refine L_reg [3, 5, 6, 7, 8] (fun K hK => ?_)
    simp [hix, hldz]
    apply hK; clear hK K
    refine L_reg [3, 6, 7, 8] (fun K hK => ?_)
    simp [wrap_i64 (a := (z : Int) + (x : Int)) (by omega)]
    apply hK; clear hK K
    refine L_reg [3, 6, 7, 8] (fun K hK => ?_)
    simp [wrap_i64 (a := (i : Int) + 1) (by omega)]
    apply hK; clear hK K
    exact ⟨c.length - (i + 1), [.int .i64 (z + x : Nat), .int .i64 (i + 1 : Nat)], by omega, by simp, i + 1, rfl, by omega, by rw [hs], rfl⟩
  · have e : i = c.length := by omega
    subst e
    rw [List.take_length] at ht ⊢
    have e2 : ((c.sum : Int) % 2 == 1) = decide (c.sum % 2 = 1) := by rw [Bool.eq_iff_iff, beq_iff_eq, decide_eq_true_eq]; omega
    have hw : IntKind.i64.wrap ((c.sum : Int) % 2) = (c.sum : Int) % 2 := wrap_i64 (by omega)
    have hr : ((c.sum : Int).tmod 2) = (c.sum : Int) % 2 := Int.tmod_eq_emod_of_nonneg (by omega)
    refine L_reg [2] (fun K hK => ?_)
    simp [hr, e2]
    apply hK; clear hK K
    exact L_ret ⟨.inr rfl, _, rfl, h⟩
end Go.Proofs.Ytbimapbcpmeooaa.Cl
