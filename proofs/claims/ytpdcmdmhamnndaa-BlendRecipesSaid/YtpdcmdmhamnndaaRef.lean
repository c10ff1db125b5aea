/- The reference: Check, all, round. -/
import Derived.Test.YtpdcmdmhamnndaaPub
namespace Go.Proofs.Ytpdcmdmhamnndaa
open Go Go.Proofs.Ytpdcmdmhamnndaa.AX

theorem rleaves {n : Int} : (1 ≤ n ∧ n ≤ 10) ↔ leavesE n = 0 := by
  unfold leavesE
  split <;> simp <;> omega
/-- What the leaf ahead of place i is, at least. -/
def befS (l : List Int) : Nat → Int
  | 0 => -1
  | i + 1 => l[i]?.getD (-1)
set_option maxRecDepth 100000 in
theorem rCheck_ac (n : Int) (v : AV) (l : List Int) (H : AH) (Q : AV → AH → Prop) (hl : l.length ≤ 1000000) (hv : Ls H v l) (h : Q (.int .i64 (checkE n l)) H) : AC Try.prog 26 [.int .i64 n, v] H Q := by
  obtain ⟨r, off, ver, sz, full, rfl, hld⟩ := hv
  refine L_body 37 Try.func26 rfl rfl ?_
  refine L_reg [0, 1] (fun K hK => ?_)
  simp
  apply hK; clear hK K
  refine L_reg [0, 1, 8] (fun K hK => ?_)
  simp [okFn_low]
  refine in_ac n 1 10 _ _ ?_
  simp
  apply hK; clear hK K
  unfold checkE at h
  by_cases hn : 1 ≤ n ∧ n ≤ 10
  case neg =>
    refine L_true (by simp; omega) ?_
    have hne : leavesE n ≠ 0 := fun e => hn (rleaves.2 e)
    have h1 : leavesE n = 1 := by unfold leavesE at *; split at hne <;> simp_all
    rw [if_neg hne, h1] at h
    refine L_reg [4] (fun K hK => ?_)
    simp
    apply hK; clear hK K
    exact L_ret ⟨.inr rfl, _, rfl, h⟩
  refine L_false (by simp [hn]) ?_
  rw [if_pos (rleaves.1 hn)] at h
  refine L_reg [0, 1, 5] (fun K hK => ?_)
  simp
  apply hK; clear hK K
  refine L_block (L_loopV [5] (fun k vs H' => ∃ i : Nat, k = l.length - i ∧ i ≤ l.length ∧ chk n (-1) l = chk n (befS l i) (l.drop i) ∧ vs = [.int .i64 i] ∧ H = H') _ [.int .i64 (0 : Nat)] rfl ⟨0, rfl, by omega, rfl, rfl, rfl⟩ ?_)
  rintro k _ _ ⟨i, rfl, hi, hx, rfl, rfl⟩
  refine L_reg [0, 1, 5, 12] (fun K hK => ?_)
  simp
  apply hK; clear hK K
  refine L_dec (i < l.length) (by simp) (fun hlt => ?_) (fun hge => L_exit ?_)
  · obtain ⟨r', rfl, rfl, hrd⟩ := hld i hlt
    rw [chk_drop hlt] at hx
    refine L_block ?_
    refine L_reg [0, 1, 5, 22] (fun K hK => ?_)
    simp [okFn_low, hlt, hrd, wrap_i64 (a := n - 1) (by omega)]
    refine in_ac _ _ _ _ _ ?_
    simp
    apply hK; clear hK K
    by_cases h0 : 0 ≤ l[i] ∧ l[i] ≤ n - 1
    case neg =>
      refine L_true (by simp; omega) ?_
      rw [if_pos (by omega)] at hx
      refine L_reg [4] (fun K hK => ?_)
      simp
      apply hK; clear hK K
      exact L_ret ⟨.inr rfl, _, rfl, by rw [hx] at h; exact h⟩
    refine L_false (by simp [h0]) ?_
    rw [if_neg (by omega)] at hx
    cases i with
    | zero =>
      rw [if_neg (by simp only [befS]; omega)] at hx
      refine L_regT mixed [0, 1, 5, 36] (by kernel_rfl) (fun K hK => ?_)
      simp [pickV]
      apply hK; clear hK K
      refine L_false (by simp) ?_
      refine L_reg [0, 1, 5] (fun K hK => ?_)
      simp [wrap_i64 (a := 1) (by omega)]
      apply hK; clear hK K
      exact ⟨l.length - 1, [.int .i64 (1 : Nat)], by omega, by simp, 1, rfl, by omega, by rw [hx]; simp [befS, hlt], rfl, rfl⟩
    | succ i =>
      obtain ⟨r2, h3, -, hrd2⟩ := hld i (by omega)
      obtain rfl := Option.some.inj h3
      have hb : befS l (i + 1) = l[i] := by simp [befS, show i < l.length by omega]
      rw [hb] at hx
      have hw : IntKind.i64.wrap (i : Int) = (i : Int) := wrap_i64 (by omega)
      have hi1 : ((i : Int) + 1).toNat = i + 1 := by omega
      have hg0 : (0 : Int) < (i : Int) + 1 := by omega
      refine L_regT mixed [0, 1, 5, 36] (by kernel_rfl) (fun K hK => ?_)
      simp [pickV, hw, hi1, hg0, hrd, hrd2, hlt, show i < l.length by omega, show (0 : Int) ≤ (i : Int) + 1 by omega, show (i : Int) + 1 < (l.length : Int) by omega]
      apply hK; clear hK K
      refine L_dec (l[i + 1] ≤ l[i]) (by simp) (fun h5 => ?_) (fun h5 => ?_)
      · rw [if_pos h5] at hx
        refine L_reg [4] (fun K hK => ?_)
        simp
        apply hK; clear hK K
        exact L_ret ⟨.inr rfl, _, rfl, by rw [hx] at h; exact h⟩
      · rw [if_neg h5] at hx
        refine L_reg [0, 1, 5] (fun K hK => ?_)
        simp [wrap_i64 (a := (i : Int) + 1 + 1) (by omega)]
        apply hK; clear hK K
        exact ⟨l.length - (i + 1 + 1), [.int .i64 (i + 1 + 1 : Nat)], by omega, by simp, i + 1 + 1, rfl, by omega, by rw [hx]; simp [befS, hlt], rfl, rfl⟩
  · obtain rfl : i = l.length := by omega
    rw [List.drop_length] at hx
    refine L_reg [4] (fun K hK => ?_)
    simp
    apply hK; clear hK K
    exact L_ret ⟨.inr rfl, _, rfl, by rw [hx] at h; exact h⟩
theorem rall_ac (n : Nat) (hn : n ≤ 1000) (H : AH) (Q : AV → AH → Prop) (h : ∀ v' H', OwnF H.length H' v' ((iota n).map (.int .i64)) → Ext H H' → Q v' H') : AC Try.prog 92 [.int .i64 n] H Q := by
  refine L_body 15 Try.func92 rfl rfl ?_
  refine L_reg [0] (fun K hK => ?_)
  simp
  apply hK; clear hK K
  refine L_reg [0, 3] (fun K hK => ?_)
  simp
  apply hK; clear hK K
  refine L_reg [0, 3, 4] (fun K hK => ?_)
  simp
  apply hK; clear hK K
  refine L_block (L_loopV [3, 4] (fun k vs H' => ∃ (i : Nat) (v : AV), k = n - i ∧ i ≤ n ∧ OwnF H.length H' v ((iota i).map (.int .i64)) ∧ Ext H H' ∧ vs = [v, .int .i64 i]) _ [.slice none 0 0 0 1 false, .int .i64 (0 : Nat)] rfl ⟨0, _, rfl, by omega, .nil _ _, .refl H, rfl⟩ ?_)
  rintro k _ H1 ⟨i, v, rfl, hi, hO, hE, rfl⟩
  refine L_reg [0, 3, 4, 7] (fun K hK => ?_)
  simp
  apply hK; clear hK K
  refine L_dec (i < n) (by simp) (fun hlt => ?_) (fun hge => L_exit ?_)
  · refine L_block ?_
    obtain ⟨v', H', he, hO', hE'⟩ := ownF_append hE el22 el22 (x := .int .i64 (i : Int)) (m := 1) hO rfl (by simp; omega)
    refine L_reg [0, 3, 4] (fun K hK => ?_)
    simp [he]
    apply hK; clear hK K
    refine L_reg [0, 3, 4] (fun K hK => ?_)
    simp [wrap_i64 (a := (i : Int) + 1) (by omega)]
    apply hK; clear hK K
    refine ⟨n - (i + 1), [v', .int .i64 (i + 1 : Nat)], by omega, by simp, i + 1, v', rfl, by omega, ?_, hE', rfl⟩
    rw [iota_succ, List.map_append]; exact hO'
  · obtain rfl : i = n := by omega
    refine L_reg [2] (fun K hK => ?_)
    simp
    apply hK; clear hK K
    exact L_ret ⟨.inr rfl, _, rfl, h _ _ hO hE⟩
end Go.Proofs.Ytpdcmdmhamnndaa
