/- Dock: checks, and proofs that wishes cannot all be met. -/
import Derived.Test.YtojblooaiojmcaaDock
namespace Go.Proofs.Ytojblooaiojmcaa
open Go Go.Proofs.Ytojblooaiojmcaa.AX

def okL (n : Int) (l : List Int) : Bool := l.all fun b => decide (0 ≤ b) && decide (b < n)
def checkS (n : Int) (l : List Int) : Int := if okBays n ≠ 0 then 1 else if n < l.length then 3 else if okL n l then 0 else 2

theorem all_take_succ {l : List Int} {p : Int → Bool} {i : Nat} (hi : i < l.length) : (l.take (i + 1)).all p = ((l.take i).all p && p l[i]) := by
  rw [List.take_succ_eq_append_getElem hi, List.all_append, List.all_cons, List.all_nil, Bool.and_true]

theorem countP_take_succ {l : List Int} {p : Int → Bool} {i : Nat} (hi : i < l.length) : (l.take (i + 1)).countP p = (l.take i).countP p + if p l[i] then 1 else 0 := by
  rw [List.take_succ_eq_append_getElem hi, List.countP_append]
  simp [List.countP_cons]

theorem all_of_bad {l : List Int} {p : Int → Bool} {i : Nat} (hi : i < l.length) (h : p l[i] = false) : l.all p = false := by
  rw [List.all_eq_false]
  exact ⟨l[i], List.getElem_mem hi, by simp [h]⟩

theorem okBays_cases (n : Int) : okBays n = 0 ∧ 1 ≤ n ∧ n ≤ 8 ∨ okBays n = 1 ∧ ¬ (1 ≤ n ∧ n ≤ 8) := by
  unfold okBays
  split <;> simp_all

theorem Check_ac (n : Int) (v : AV) (l : List Int) (H : AH) (Q : AV → AH → Prop) (hl : l.length ≤ 1048576) (hv : Ls H v l) (h : Q (.int .i64 (checkS n l)) H) : AC Try.prog 27 [.int .i64 n, v] H Q := by
  obtain ⟨r, off, ver, sz, full, rfl, hv⟩ := hv
  refine L_body 28 Try.func27 rfl rfl ?_
  refine L_reg [0, 1, 4] (fun K hK => ?_)
  simp
  apply hK; clear hK K
  refine L_reg [0, 1, 4, 5] (fun K hK => ?_)
  simp [okFn_low]
  refine checkBays_ac _ _ _ ?_
  simp
  apply hK; clear hK K
  refine L_reg [0, 1, 4, 5, 11] (fun K hK => ?_)
  simp
  apply hK; clear hK K
  unfold checkS at h
  rcases okBays_cases n with ⟨ho, h1, h8⟩ | ⟨ho, -⟩
  · rw [ho] at h ⊢
    rw [if_neg (by decide)] at h
    refine L_false rfl ?_
    refine L_reg [0, 1, 4, 16] (fun K hK => ?_)
    simp
    apply hK; clear hK K
    refine L_dec (n < l.length) rfl (fun hgt => ?_) (fun hgt => ?_)
    · refine L_reg [4] (fun K hK => ?_)
      simp
      apply hK; clear hK K
      rw [if_pos hgt] at h
      exact L_ret ⟨.inr rfl, _, rfl, h⟩
    · rw [if_neg hgt] at h
      refine L_reg [0, 4, 17, 18, 19] (fun K hK => ?_)
      simp
      apply hK; clear hK K
      refine L_block (L_loop (fun k e H' => ∃ i : Nat, k = l.length - i ∧ i ≤ l.length ∧ okL n (l.take i) = true ∧ e = [(0, .int .i64 n), (4, .int .i64 0), (17, .slice r off l.length ver sz full), (18, .int .i64 l.length), (19, .int .i64 i)] ∧ H' = H) l.length ⟨0, rfl, Nat.zero_le _, rfl, rfl, rfl⟩ ?_)
      rintro k _ _ ⟨i, rfl, hil, hok, rfl, rfl⟩
      refine L_reg [0, 4, 17, 18, 19, 20] (fun K hK => ?_)
      simp
      apply hK; clear hK K
      refine L_dec (i < l.length) (by simp) (fun hi => ?_) (fun hi => L_exit ?_)
      · obtain ⟨r', rfl, rfl, hld⟩ := hv i hi
        refine L_block ?_
        refine L_reg [0, 4, 7, 17, 18, 19] (fun K hK => ?_)
        simp [hi, hld]
        apply hK; clear hK K
        refine L_reg [0, 4, 17, 18, 19, 26] (fun K hK => ?_)
        simp [okFn_low]
        refine isBay_ac _ _ _ _ ?_
        simp
        apply hK; clear hK K
        by_cases hx : 0 ≤ l[i] ∧ l[i] < n
        · refine L_false (by simp; omega) ?_
          refine L_reg [0, 4, 17, 18, 19] (fun K hK => ?_)
          simp [wrap_i64 (a := (i : Int) + 1) (by omega)]
          apply hK; clear hK K
          refine ⟨l.length - (i + 1), by omega, i + 1, rfl, hi, ?_, by simp, rfl⟩
          unfold okL at hok ⊢
          rw [all_take_succ hi, hok]
          simp [hx]
        · refine L_true (by simp; omega) ?_
          refine L_reg [4] (fun K hK => ?_)
          simp
          apply hK; clear hK K
          rw [if_neg (by rw [okL, all_of_bad hi (by simpa using hx)]; decide)] at h
          exact L_ret ⟨.inr rfl, _, rfl, h⟩
      · refine L_reg [4] (fun K hK => ?_)
        simp
        apply hK; clear hK K
        rw [List.take_of_length_le (by omega)] at hok
        rw [if_pos hok] at h
        exact L_ret ⟨.inr rfl, _, rfl, h⟩
  · rw [ho] at h ⊢
    refine L_true rfl ?_
    refine L_reg [4] (fun K hK => ?_)
    simp
    apply hK; clear hK K
    exact L_ret ⟨.inr rfl, _, rfl, h⟩

def over (n : Int) (l : List Int) (k : Int) : Bool := decide (k < (l.countP fun w => decide (n - k ≤ w) : Nat))

theorem overrun_ac (n k : Int) (v : AV) (l : List Int) (H : AH) (Q : AV → AH → Prop) (hn : 0 ≤ n ∧ n ≤ 8) (hk : 0 ≤ k ∧ k ≤ 8) (hl : l.length ≤ 1048576) (hv : Ls H v l) (h : Q (.bool (over n l k)) H) : AC Try.prog 68 [.int .i64 n, v, .int .i64 k] H Q := by
  obtain ⟨r, off, ver, sz, full, rfl, hv⟩ := hv
  refine L_body 27 Try.func68 rfl rfl ?_
  refine L_reg [0, 1, 2, 6] (fun K hK => ?_)
  simp
  apply hK; clear hK K
  refine L_reg [0, 1, 2, 6, 7] (fun K hK => ?_)
  simp
  apply hK; clear hK K
  refine L_reg [0, 2, 6, 7, 10, 11, 12] (fun K hK => ?_)
  simp
  apply hK; clear hK K
  refine L_block (L_loop (fun m e H' => ∃ i : Nat, m = l.length - i ∧ i ≤ l.length ∧ e = [(0, .int .i64 n), (2, .int .i64 k), (6, .bool false), (7, .int .i64 (((l.take i).countP fun w => decide (n - k ≤ w) : Nat) : Int)), (10, .slice r off l.length ver sz full), (11, .int .i64 l.length), (12, .int .i64 i)] ∧ H' = H) l.length ⟨0, rfl, Nat.zero_le _, rfl, rfl⟩ ?_)
  rintro m _ _ ⟨i, rfl, hil, rfl, rfl⟩
  refine L_reg [0, 2, 6, 7, 10, 11, 12, 13] (fun K hK => ?_)
  simp
  apply hK; clear hK K
  refine L_dec (i < l.length) (by simp) (fun hi => ?_) (fun hi => L_exit ?_)
  · obtain ⟨r', rfl, rfl, hld⟩ := hv i hi
    have hcl : (l.take i).countP (fun w => decide (n - k ≤ w)) ≤ i := Nat.le_trans List.countP_le_length (by simp; omega)
    have hst := countP_take_succ (p := fun w => decide (n - k ≤ w)) hi
    generalize hc : (l.take i).countP (fun w => decide (n - k ≤ w)) = c at hcl hst
    refine L_block ?_
    refine L_reg [0, 2, 6, 7, 9, 10, 11, 12] (fun K hK => ?_)
    simp [hi, hld]
    apply hK; clear hK K
    refine L_reg [0, 2, 6, 7, 10, 11, 12, 20] (fun K hK => ?_)
    simp [wrap_i64 (a := n - k) (by omega)]
    apply hK; clear hK K
    refine L_dec (n - k ≤ l[i]) rfl (fun hx => ?_) (fun hx => ?_)
    · refine L_reg [0, 2, 6, 7, 10, 11, 12] (fun K hK => ?_)
      simp [wrap_i64 (a := (c : Int) + 1) (by omega)]
      apply hK; clear hK K
      refine L_reg [0, 2, 6, 7, 10, 11, 12] (fun K hK => ?_)
      simp [wrap_i64 (a := (i : Int) + 1) (by omega)]
      apply hK; clear hK K
      exact ⟨l.length - (i + 1), by omega, i + 1, rfl, hi, by rw [hst]; simp [hx], rfl⟩
    · refine L_reg [0, 2, 6, 7, 10, 11, 12] (fun K hK => ?_)
      simp [wrap_i64 (a := (i : Int) + 1) (by omega)]
      apply hK; clear hK K
      exact ⟨l.length - (i + 1), by omega, i + 1, rfl, hi, by rw [hst]; simp [hx], rfl⟩
  · refine L_reg [6] (fun K hK => ?_)
    simp
    apply hK; clear hK K
    rw [List.take_of_length_le (by omega)]
    exact L_ret ⟨.inr rfl, _, rfl, h⟩

theorem in_ac (n lo hi : Int) (H : AH) (Q : AV → AH → Prop) (h : Q (.bool (decide (lo ≤ n) && decide (n ≤ hi))) H) : AC Try.prog 65 [.int .i64 n, .int .i64 lo, .int .i64 hi] H Q := by
  refine L_body 15 Try.func65 rfl rfl ?_
  refine L_reg [0, 1, 2, 6] (fun K hK => ?_)
  simp
  apply hK; clear hK K
  refine L_reg [6] (fun K hK => ?_)
  by_cases h0 : lo ≤ n <;> simp [h0] at h ⊢ <;> apply hK <;> clear hK K <;> exact L_ret ⟨.inr rfl, _, rfl, h⟩

theorem refCheck_ac (n : Int) (v : AV) (l : List Int) (H : AH) (Q : AV → AH → Prop) (hl : l.length ≤ 1048576) (hv : Ls H v l) (h : Q (.int .i64 (checkS n l)) H) : AC Try.prog 28 [.int .i64 n, v] H Q := by
  obtain ⟨r, off, ver, sz, full, rfl, hv⟩ := hv
  refine L_body 27 Try.func28 rfl rfl ?_
  refine L_reg [0, 1, 4] (fun K hK => ?_)
  simp
  apply hK; clear hK K
  refine L_reg [0, 1, 4, 8] (fun K hK => ?_)
  simp [okFn_low]
  refine in_ac _ _ _ _ _ ?_
  simp
  apply hK; clear hK K
  unfold checkS at h
  rcases okBays_cases n with ⟨ho, h1, h8⟩ | ⟨ho, hno⟩
  · rw [ho, if_neg (by decide)] at h
    refine L_false (by simp; omega) ?_
    refine L_reg [0, 1, 4, 12] (fun K hK => ?_)
    simp
    apply hK; clear hK K
    refine L_dec (n < l.length) rfl (fun hgt => ?_) (fun hgt => ?_)
    · refine L_reg [4] (fun K hK => ?_)
      simp
      apply hK; clear hK K
      rw [if_pos hgt] at h
      exact L_ret ⟨.inr rfl, _, rfl, h⟩
    · rw [if_neg hgt] at h
      refine L_reg [0, 1, 4, 5] (fun K hK => ?_)
      simp
      apply hK; clear hK K
      refine L_block (L_loop (fun k e H' => ∃ i : Nat, k = l.length - i ∧ i ≤ l.length ∧ okL n (l.take i) = true ∧ e = [(0, .int .i64 n), (1, .slice r off l.length ver sz full), (4, .int .i64 0), (5, .int .i64 i)] ∧ H' = H) l.length ⟨0, rfl, Nat.zero_le _, rfl, rfl, rfl⟩ ?_)
      rintro k _ _ ⟨i, rfl, hil, hok, rfl, rfl⟩
      refine L_reg [0, 1, 4, 5, 16] (fun K hK => ?_)
      simp
      apply hK; clear hK K
      refine L_dec (i < l.length) (by simp) (fun hi => ?_) (fun hi => L_exit ?_)
      · obtain ⟨r', rfl, rfl, hld⟩ := hv i hi
        refine L_block ?_
        refine L_reg [0, 1, 4, 5, 26] (fun K hK => ?_)
        simp [hi, hld, okFn_low, wrap_i64 (a := n - 1) (by omega)]
        refine in_ac _ _ _ _ _ ?_
        simp
        apply hK; clear hK K
        by_cases hx : 0 ≤ l[i] ∧ l[i] < n
        · refine L_false (by simp; omega) ?_
          refine L_reg [0, 1, 4, 5] (fun K hK => ?_)
          simp [wrap_i64 (a := (i : Int) + 1) (by omega)]
          apply hK; clear hK K
          refine ⟨l.length - (i + 1), by omega, i + 1, rfl, hi, ?_, by simp, rfl⟩
          unfold okL at hok ⊢
          rw [all_take_succ hi, hok]
          simp [hx]
        · refine L_true (by simp; omega) ?_
          refine L_reg [4] (fun K hK => ?_)
          simp
          apply hK; clear hK K
          rw [if_neg (by rw [okL, all_of_bad hi (by simpa using hx)]; decide)] at h
          exact L_ret ⟨.inr rfl, _, rfl, h⟩
      · refine L_reg [4] (fun K hK => ?_)
        simp
        apply hK; clear hK K
        rw [List.take_of_length_le (by omega)] at hok
        rw [if_pos hok] at h
        exact L_ret ⟨.inr rfl, _, rfl, h⟩
  · rw [ho, if_pos (by decide)] at h
    refine L_true (by simp; omega) ?_
    refine L_reg [4] (fun K hK => ?_)
    simp
    apply hK; clear hK K
    exact L_ret ⟨.inr rfl, _, rfl, h⟩

theorem refProves_ac (n k : Int) (v : AV) (l : List Int) (H : AH) (Q : AV → AH → Prop) (hn : 0 ≤ n ∧ n ≤ 8) (hk : 0 ≤ k ∧ k ≤ 8) (hl : l.length ≤ 1048576) (hv : Ls H v l) (h : Q (.bool (over n l k)) H) : AC Try.prog 69 [.int .i64 n, v, .int .i64 k] H Q := by
  obtain ⟨r, off, ver, sz, full, rfl, hv⟩ := hv
  refine L_body 28 Try.func69 rfl rfl ?_
  refine L_reg [0, 1, 2, 6] (fun K hK => ?_)
  simp
  apply hK; clear hK K
  refine L_reg [0, 1, 2, 6, 7] (fun K hK => ?_)
  simp
  apply hK; clear hK K
  refine L_reg [0, 1, 2, 6, 7, 8] (fun K hK => ?_)
  simp
  apply hK; clear hK K
  refine L_block (L_loop (fun m e H' => ∃ i : Nat, m = l.length - i ∧ i ≤ l.length ∧ e = [(0, .int .i64 n), (1, .slice r off l.length ver sz full), (2, .int .i64 k), (6, .bool false), (7, .int .i64 (((l.take i).countP fun w => decide (n - k ≤ w) : Nat) : Int)), (8, .int .i64 i)] ∧ H' = H) l.length ⟨0, rfl, Nat.zero_le _, rfl, rfl⟩ ?_)
  rintro m _ _ ⟨i, rfl, hil, rfl, rfl⟩
  refine L_reg [0, 1, 2, 6, 7, 8, 12] (fun K hK => ?_)
  simp
  apply hK; clear hK K
  refine L_dec (i < l.length) (by simp) (fun hi => ?_) (fun hi => L_exit ?_)
  · obtain ⟨r', rfl, rfl, hld⟩ := hv i hi
    have hcl : (l.take i).countP (fun w => decide (n - k ≤ w)) ≤ i := Nat.le_trans List.countP_le_length (by simp; omega)
    have hst := countP_take_succ (p := fun w => decide (n - k ≤ w)) hi
    generalize hc : (l.take i).countP (fun w => decide (n - k ≤ w)) = c at hcl hst
    refine L_block ?_
    refine L_reg [0, 1, 2, 6, 7, 8, 22] (fun K hK => ?_)
    simp [hi, hld, wrap_i64 (a := n - k) (by omega)]
    apply hK; clear hK K
    refine L_dec (n - k ≤ l[i]) rfl (fun hx => ?_) (fun hx => ?_)
    · refine L_reg [0, 1, 2, 6, 7, 8] (fun K hK => ?_)
      simp [wrap_i64 (a := (c : Int) + 1) (by omega)]
      apply hK; clear hK K
      refine L_reg [0, 1, 2, 6, 7, 8] (fun K hK => ?_)
      simp [wrap_i64 (a := (i : Int) + 1) (by omega)]
      apply hK; clear hK K
      exact ⟨l.length - (i + 1), by omega, i + 1, rfl, hi, by rw [hst]; simp [hx], rfl⟩
    · refine L_reg [0, 1, 2, 6, 7, 8] (fun K hK => ?_)
      simp [wrap_i64 (a := (i : Int) + 1) (by omega)]
      apply hK; clear hK K
      exact ⟨l.length - (i + 1), by omega, i + 1, rfl, hi, by rw [hst]; simp [hx], rfl⟩
  · refine L_reg [6] (fun K hK => ?_)
    simp
    apply hK; clear hK K
    rw [List.take_of_length_le (by omega)]
    exact L_ret ⟨.inr rfl, _, rfl, h⟩

/-- The least number of last bays that is wished for too often. -/
def fo (n : Int) (l : List Int) : Nat → Int → Int × Int
  | 0, _ => (0, 13)
  | m + 1, k => if over n l k then (k, 0) else fo n l m (k + 1)
def againstS (n : Int) (l : List Int) : Int × Int := if checkS n l ≠ 0 then (0, checkS n l) else fo n l n.toNat 1
def provesS (n : Int) (l : List Int) (k : Int) : Int := if checkS n l ≠ 0 then checkS n l else if ¬ (1 ≤ k ∧ k ≤ n) then 1 else if over n l k then 0 else 14

theorem checkS_ok {n : Int} {l : List Int} (h : checkS n l = 0) : 1 ≤ n ∧ n ≤ 8 := by
  unfold checkS at h
  rcases okBays_cases n with ⟨ho, h1⟩ | ⟨ho, -⟩
  · exact h1
  · rw [ho, if_pos (by decide)] at h; cases h

theorem Against_ac (n : Int) (v : AV) (l : List Int) (H : AH) (Q : AV → AH → Prop) (hl : l.length ≤ 1048576) (hv : Ls H v l) (h : Q (.tuple [.int .i64 (againstS n l).1, .int .i64 (againstS n l).2]) H) : AC Try.prog 29 [.int .i64 n, v] H Q := by
  refine L_body 24 Try.func29 rfl rfl ?_
  refine L_reg [0, 1, 4, 5] (fun K hK => ?_)
  simp
  apply hK; clear hK K
  refine L_reg [0, 1, 4, 5, 6] (fun K hK => ?_)
  simp [okFn_low]
  refine Check_ac _ _ l _ _ hl hv ?_
  simp
  apply hK; clear hK K
  refine L_reg [0, 1, 4, 5, 6, 12] (fun K hK => ?_)
  simp
  apply hK; clear hK K
  unfold againstS at h
  by_cases hc : checkS n l = 0
  · rw [if_neg (by simp [hc])] at h
    obtain ⟨h1, h8⟩ := checkS_ok hc
    refine L_false (by simp [hc]) ?_
    refine L_reg [0, 1, 4, 5, 7] (fun K hK => ?_)
    simp
    apply hK; clear hK K
    refine L_block (L_loop (fun m e H' => ∃ k : Int, (m : Int) = n + 1 - k ∧ 1 ≤ k ∧ fo n l m k = fo n l n.toNat 1 ∧ e = [(0, .int .i64 n), (1, v), (4, .int .i64 0), (5, .int .i64 0), (7, .int .i64 k)] ∧ H' = H) n.toNat ⟨1, by omega, by omega, rfl, rfl, rfl⟩ ?_)
    rintro m _ _ ⟨k, hm, hk1, hf, rfl, rfl⟩
    refine L_reg [0, 1, 4, 5, 7, 16] (fun K hK => ?_)
    simp
    apply hK; clear hK K
    refine L_dec (k ≤ n) rfl (fun hk => ?_) (fun hk => L_exit ?_)
    · obtain ⟨m', rfl⟩ : ∃ m', m = m' + 1 := ⟨m - 1, by omega⟩
      rw [fo] at hf
      refine L_block ?_
      refine L_reg [0, 1, 4, 5, 7, 22] (fun K hK => ?_)
      simp [okFn_low]
      refine overrun_ac _ _ _ l _ _ (by omega) (by omega) hl hv ?_
      simp
      apply hK; clear hK K
      refine L_split rfl (fun hx => ?_) (fun hx => ?_)
      · refine L_reg [4, 5] (fun K hK => ?_)
        simp
        apply hK; clear hK K
        rw [if_pos hx] at hf
        rw [← hf] at h
        exact L_ret ⟨.inr rfl, _, rfl, h⟩
      · refine L_reg [0, 1, 4, 5, 7] (fun K hK => ?_)
        simp [wrap_i64 (a := k + 1) (by omega)]
        apply hK; clear hK K
        rw [if_neg (by simp [hx])] at hf
        exact ⟨m', by omega, k + 1, by omega, by omega, hf, rfl, rfl⟩
    · refine L_reg [4, 5] (fun K hK => ?_)
      simp
      apply hK; clear hK K
      have : m = 0 := by omega
      rw [this, fo] at hf
      rw [← hf] at h
      exact L_ret ⟨.inr rfl, _, rfl, h⟩
  · rw [if_pos hc] at h
    refine L_true (by simp [hc]) ?_
    refine L_reg [4, 5] (fun K hK => ?_)
    simp
    apply hK; clear hK K
    exact L_ret ⟨.inr rfl, _, rfl, h⟩

theorem Proves_ac (n k : Int) (v : AV) (l : List Int) (H : AH) (Q : AV → AH → Prop) (hl : l.length ≤ 1048576) (hv : Ls H v l) (h : Q (.int .i64 (provesS n l k)) H) : AC Try.prog 31 [.int .i64 n, v, .int .i64 k] H Q := by
  refine L_body 26 Try.func31 rfl rfl ?_
  refine L_reg [0, 1, 2, 6] (fun K hK => ?_)
  simp
  apply hK; clear hK K
  refine L_reg [0, 1, 2, 6, 7] (fun K hK => ?_)
  simp [okFn_low]
  refine Check_ac _ _ l _ _ hl hv ?_
  simp
  apply hK; clear hK K
  refine L_reg [0, 1, 2, 6, 7, 12] (fun K hK => ?_)
  simp
  apply hK; clear hK K
  unfold provesS at h
  by_cases hc : checkS n l = 0
  · rw [if_neg (by simp [hc])] at h
    obtain ⟨h1, h8⟩ := checkS_ok hc
    refine L_false (by simp [hc]) ?_
    refine L_reg [0, 1, 2, 6, 20] (fun K hK => ?_)
    by_cases hk1 : k < 1
    · simp [hk1]
      apply hK; clear hK K
      refine L_true rfl ?_
      refine L_reg [6] (fun K hK => ?_)
      simp
      apply hK; clear hK K
      rw [if_pos (by omega)] at h
      exact L_ret ⟨.inr rfl, _, rfl, h⟩
    · simp [hk1]
      apply hK; clear hK K
      refine L_dec (n < k) rfl (fun hk => ?_) (fun hk => ?_)
      · refine L_reg [6] (fun K hK => ?_)
        simp
        apply hK; clear hK K
        rw [if_pos (by omega)] at h
        exact L_ret ⟨.inr rfl, _, rfl, h⟩
      · rw [if_neg (by omega)] at h
        refine L_reg [6, 25] (fun K hK => ?_)
        simp [okFn_low]
        refine overrun_ac _ _ _ l _ _ (by omega) (by omega) hl hv ?_
        simp
        apply hK; clear hK K
        by_cases hx : over n l k = true
        · rw [if_pos hx] at h
          refine L_false (by simp [hx]) ?_
          refine L_reg [6] (fun K hK => ?_)
          simp
          apply hK; clear hK K
          exact L_ret ⟨.inr rfl, _, rfl, h⟩
        · rw [if_neg hx] at h
          refine L_true (by simp [hx]) ?_
          refine L_reg [6] (fun K hK => ?_)
          simp
          apply hK; clear hK K
          exact L_ret ⟨.inr rfl, _, rfl, h⟩
  · rw [if_pos hc] at h
    refine L_true (by simp [hc]) ?_
    refine L_reg [6] (fun K hK => ?_)
    simp
    apply hK; clear hK K
    exact L_ret ⟨.inr rfl, _, rfl, h⟩
theorem refAgainst_ac (n : Int) (v : AV) (l : List Int) (H : AH) (Q : AV → AH → Prop) (hl : l.length ≤ 1048576) (hv : Ls H v l) (h : Q (.tuple [.int .i64 (againstS n l).1, .int .i64 (againstS n l).2]) H) : AC Try.prog 30 [.int .i64 n, v] H Q := by
  refine L_body 24 Try.func30 rfl rfl ?_
  refine L_reg [0, 1, 4, 5] (fun K hK => ?_)
  simp
  apply hK; clear hK K
  refine L_reg [0, 1, 4, 5, 6] (fun K hK => ?_)
  simp [okFn_low]
  refine refCheck_ac _ _ l _ _ hl hv ?_
  simp
  apply hK; clear hK K
  refine L_reg [0, 1, 4, 5, 6, 12] (fun K hK => ?_)
  simp
  apply hK; clear hK K
  unfold againstS at h
  by_cases hc : checkS n l = 0
  · rw [if_neg (by simp [hc])] at h
    obtain ⟨h1, h8⟩ := checkS_ok hc
    refine L_false (by simp [hc]) ?_
    refine L_reg [0, 1, 4, 5, 7] (fun K hK => ?_)
    simp
    apply hK; clear hK K
    refine L_block (L_loop (fun m e H' => ∃ k : Int, (m : Int) = n + 1 - k ∧ 1 ≤ k ∧ fo n l m k = fo n l n.toNat 1 ∧ e = [(0, .int .i64 n), (1, v), (4, .int .i64 0), (5, .int .i64 0), (7, .int .i64 k)] ∧ H' = H) n.toNat ⟨1, by omega, by omega, rfl, rfl, rfl⟩ ?_)
    rintro m _ _ ⟨k, hm, hk1, hf, rfl, rfl⟩
    refine L_reg [0, 1, 4, 5, 7, 16] (fun K hK => ?_)
    simp
    apply hK; clear hK K
    refine L_dec (k ≤ n) rfl (fun hk => ?_) (fun hk => L_exit ?_)
    · obtain ⟨m', rfl⟩ : ∃ m', m = m' + 1 := ⟨m - 1, by omega⟩
      rw [fo] at hf
      refine L_block ?_
      refine L_reg [0, 1, 4, 5, 7, 22] (fun K hK => ?_)
      simp [okFn_low]
      refine refProves_ac _ _ _ l _ _ (by omega) (by omega) hl hv ?_
      simp
      apply hK; clear hK K
      refine L_split rfl (fun hx => ?_) (fun hx => ?_)
      · refine L_reg [4, 5] (fun K hK => ?_)
        simp
        apply hK; clear hK K
        rw [if_pos hx] at hf
        rw [← hf] at h
        exact L_ret ⟨.inr rfl, _, rfl, h⟩
      · refine L_reg [0, 1, 4, 5, 7] (fun K hK => ?_)
        simp [wrap_i64 (a := k + 1) (by omega)]
        apply hK; clear hK K
        rw [if_neg (by simp [hx])] at hf
        exact ⟨m', by omega, k + 1, by omega, by omega, hf, rfl, rfl⟩
    · refine L_reg [4, 5] (fun K hK => ?_)
      simp
      apply hK; clear hK K
      have : m = 0 := by omega
      rw [this, fo] at hf
      rw [← hf] at h
      exact L_ret ⟨.inr rfl, _, rfl, h⟩
  · rw [if_pos hc] at h
    refine L_true (by simp [hc]) ?_
    refine L_reg [4, 5] (fun K hK => ?_)
    simp
    apply hK; clear hK K
    exact L_ret ⟨.inr rfl, _, rfl, h⟩

theorem refProvesE_ac (n k : Int) (v : AV) (l : List Int) (H : AH) (Q : AV → AH → Prop) (hl : l.length ≤ 1048576) (hv : Ls H v l) (h : Q (.int .i64 (provesS n l k)) H) : AC Try.prog 32 [.int .i64 n, v, .int .i64 k] H Q := by
  refine L_body 29 Try.func32 rfl rfl ?_
  refine L_reg [0, 1, 2, 6] (fun K hK => ?_)
  simp
  apply hK; clear hK K
  refine L_reg [0, 1, 2, 6, 7] (fun K hK => ?_)
  simp [okFn_low]
  refine refCheck_ac _ _ l _ _ hl hv ?_
  simp
  apply hK; clear hK K
  refine L_reg [0, 1, 2, 6, 7, 18] (fun K hK => ?_)
  unfold provesS at h
  by_cases hc : checkS n l = 0
  · rw [if_neg (by simp [hc])] at h
    obtain ⟨h1, h8⟩ := checkS_ok hc
    simp [hc, okFn_low]
    refine in_ac _ _ _ _ _ ?_
    simp
    apply hK; clear hK K
    by_cases hk : 1 ≤ k ∧ k ≤ n
    · rw [if_neg (by simpa using hk)] at h
      refine L_false (by simp; omega) ?_
      refine L_reg [6, 7, 27] (fun K hK => ?_)
      simp [okFn_low]
      refine refProves_ac _ _ _ l _ _ (by omega) (by omega) hl hv ?_
      simp
      apply hK; clear hK K
      by_cases hx : over n l k = true
      · rw [if_pos hx] at h
        refine L_false (by simp [hx]) ?_
        refine L_reg [6] (fun K hK => ?_)
        simp
        apply hK; clear hK K
        exact L_ret ⟨.inr rfl, _, rfl, h⟩
      · rw [if_neg hx] at h
        refine L_true (by simp [hx]) ?_
        refine L_reg [6, 7] (fun K hK => ?_)
        simp
        apply hK; clear hK K
        refine L_reg [6] (fun K hK => ?_)
        simp
        apply hK; clear hK K
        exact L_ret ⟨.inr rfl, _, rfl, h⟩
    · rw [if_pos hk] at h
      refine L_true (by simp; omega) ?_
      refine L_reg [0, 1, 2, 6, 7] (fun K hK => ?_)
      simp
      apply hK; clear hK K
      refine L_reg [6, 7, 27] (fun K hK => ?_)
      simp
      apply hK; clear hK K
      refine L_false rfl ?_
      refine L_reg [6] (fun K hK => ?_)
      simp
      apply hK; clear hK K
      exact L_ret ⟨.inr rfl, _, rfl, h⟩
  · rw [if_pos hc] at h
    have hcb : (checkS n l == 0) = false := by simpa using hc
    simp [hcb]
    apply hK; clear hK K
    refine L_false rfl ?_
    refine L_reg [6, 7, 27] (fun K hK => ?_)
    simp [hcb]
    apply hK; clear hK K
    refine L_false rfl ?_
    refine L_reg [6] (fun K hK => ?_)
    simp
    apply hK; clear hK K
    exact L_ret ⟨.inr rfl, _, rfl, h⟩
end Go.Proofs.Ytojblooaiojmcaa
