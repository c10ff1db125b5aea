/- What a blend lacks. -/
import Derived.Test.YtpdcmdmhamnndaaAt
namespace Go.Proofs.Ytpdcmdmhamnndaa
open Go Go.Proofs.Ytpdcmdmhamnndaa.AX

def ixS (p : Int → Bool) : List Int → Nat → Int
  | [], _ => -1
  | y :: l, i => if p y then (i : Int) else ixS p l (i + 1)
theorem ixS_drop (p : Int → Bool) {l : List Int} {i : Nat} (hi : i < l.length) : ixS p (l.drop i) i = if p l[i] then (i : Int) else ixS p (l.drop (i + 1)) (i + 1) := by
  rw [List.drop_eq_getElem_cons hi]; rfl
theorem ixS_ge (p : Int → Bool) : ∀ (l : List Int) (i : Nat), (0 ≤ ixS p l i) ↔ ∃ x ∈ l, p x = true
  | [], i => by simp [ixS]
  | y :: l, i => by
    simp only [ixS]
    split
    · rename_i h; exact ⟨fun _ => ⟨y, by simp, h⟩, fun _ => by omega⟩
    · rename_i h
      rw [ixS_ge p l (i + 1)]
      constructor
      · rintro ⟨x, hx, hp⟩; exact ⟨x, by simp [hx], hp⟩
      · rintro ⟨x, hx, hp⟩
        rcases List.mem_cons.1 hx with rfl | hx
        · exact absurd hp h
        · exact ⟨x, hx, hp⟩
theorem Index_ac (v : AV) (l : List Int) (x : Int) (H : AH) (Q : AV → AH → Prop) (hl : l.length ≤ 1000000) (hv : Ls H v l) (h : Q (.int .i64 (ixS (fun y => decide (x = y)) l 0)) H) : AC Try.prog 89 [v, .int .i64 x] H Q := by
  obtain ⟨r, off, ver, sz, full, rfl, hld⟩ := hv
  refine L_body 19 Try.func89 rfl rfl ?_
  refine L_reg [0, 1] (fun K hK => ?_)
  simp
  apply hK; clear hK K
  refine L_reg [0, 1, 7, 8] (fun K hK => ?_)
  simp
  apply hK; clear hK K
  refine L_block (L_loopV [8] (fun k vs H' => ∃ i : Nat, k = l.length - i ∧ i ≤ l.length ∧ ixS (fun y => decide (x = y)) l 0 = ixS (fun y => decide (x = y)) (l.drop i) i ∧ vs = [.int .i64 i] ∧ H = H') _ [.int .i64 (0 : Nat)] rfl ⟨0, rfl, by omega, rfl, rfl, rfl⟩ ?_)
  rintro k _ _ ⟨i, rfl, hi, hx, rfl, rfl⟩
  refine L_reg [0, 1, 7, 8, 9] (fun K hK => ?_)
  simp
  apply hK; clear hK K
  refine L_dec (i < l.length) (by simp) (fun hlt => ?_) (fun hge => L_exit ?_)
  · obtain ⟨r', rfl, rfl, hrd⟩ := hld i hlt
    rw [ixS_drop _ hlt] at hx
    refine L_block ?_
    refine L_reg [0, 1, 5, 7, 8] (fun K hK => ?_)
    simp
    apply hK; clear hK K
    refine L_reg [0, 1, 5, 7, 8, 16] (fun K hK => ?_)
    simp [hlt, hrd]
    apply hK; clear hK K
    refine L_dec (x = l[i]) rfl (fun he => ?_) (fun he => ?_)
    · rw [if_pos (by simpa using he)] at hx
      refine L_reg [4] (fun K hK => ?_)
      simp
      apply hK; clear hK K
      exact L_ret ⟨.inr rfl, _, rfl, by rw [hx] at h; exact h⟩
    · rw [if_neg (by simpa using he)] at hx
      refine L_reg [0, 1, 7, 8] (fun K hK => ?_)
      simp [wrap_i64 (a := (i : Int) + 1) (by omega)]
      apply hK; clear hK K
      exact ⟨l.length - (i + 1), [.int .i64 (i + 1 : Nat)], by omega, by simp, i + 1, rfl, by omega, hx, rfl, rfl⟩
  · have : i = l.length := by omega
    subst this
    rw [List.drop_length] at hx
    refine L_reg [4] (fun K hK => ?_)
    simp
    apply hK; clear hK K
    exact L_ret ⟨.inr rfl, _, rfl, by rw [hx] at h; exact h⟩
theorem Contains_ac (v : AV) (l : List Int) (x : Int) (H : AH) (Q : AV → AH → Prop) (hl : l.length ≤ 1000000) (hv : Ls H v l) (h : Q (.bool (decide (x ∈ l))) H) : AC Try.prog 46 [v, .int .i64 x] H Q := by
  refine L_body 9 Try.func46 rfl rfl ?_
  refine L_reg [0, 1] (fun K hK => ?_)
  simp
  apply hK; clear hK K
  refine L_reg [4] (fun K hK => ?_)
  simp [okFn_low]
  refine Index_ac v l x _ _ hl hv ?_
  simp
  apply hK; clear hK K
  have he : decide (0 ≤ ixS (fun y => decide (x = y)) l 0) = decide (x ∈ l) := by
    rw [Bool.eq_iff_iff, decide_eq_true_iff, decide_eq_true_iff, ixS_ge]
    simp
  exact L_ret ⟨.inr rfl, _, rfl, by rw [he]; exact h⟩
theorem lack1_ac (x : Int) (q : Nat) (s : Nat) (ov : AV) (o : List Int) (H : AH) (Q : AV → AH → Prop) (ho : o.length ≤ 1000000) (hq : H[q]? = some (.row [ov] 0 s false)) (hone : ov.one = true) (hv : Ls H ov o) (h : Q (.bool (decide (x ∈ o))) H) : AC Try.prog 95 [.int .i64 x, .ptr q 0 0] H Q := by
  have e : ld H q 0 0 = some ov := by
    rw [ld_row hq]
    cases ov <;> first | rfl | (simp [AV.one] at hone)
  refine L_body 7 Try.func95 rfl rfl ?_
  refine L_reg [0, 1] (fun K hK => ?_)
  simp
  apply hK; clear hK K
  refine L_reg [3] (fun K hK => ?_)
  simp [okFn_low, e]
  refine Contains_ac ov o x _ _ ho hv ?_
  simp
  apply hK; clear hK K
  exact L_ret ⟨.inr rfl, _, rfl, h⟩

set_option maxRecDepth 100000 in
theorem IndexFunc_ac (v : AV) (l : List Int) (q s : Nat) (ov : AV) (o : List Int) (H : AH) (Q : AV → AH → Prop) (hl : l.length ≤ 1000000) (hv : Ls H v l) (ho : o.length ≤ 1000000) (hq : H[q]? = some (.row [ov] 0 s false)) (hone : ov.one = true) (hov : Ls H ov o)
    (h : Q (.int .i64 (ixS (fun y => decide (y ∈ o)) l 0)) H) : AC Try.prog 112 [v, .func (.func 95) [] [.ptr q 0 0]] H Q := by
  obtain ⟨r, off, ver, sz, full, rfl, hld⟩ := hv
  refine L_body 19 Try.func112 rfl rfl ?_
  refine L_reg [0, 1] (fun K hK => ?_)
  simp
  apply hK; clear hK K
  refine L_reg [0, 1, 7, 8] (fun K hK => ?_)
  simp
  apply hK; clear hK K
  refine L_block (L_loopV [8] (fun k vs H' => ∃ i : Nat, k = l.length - i ∧ i ≤ l.length ∧ ixS (fun y => decide (y ∈ o)) l 0 = ixS (fun y => decide (y ∈ o)) (l.drop i) i ∧ vs = [.int .i64 i] ∧ H = H') _ [.int .i64 (0 : Nat)] rfl ⟨0, rfl, by omega, rfl, rfl, rfl⟩ ?_)
  rintro k _ _ ⟨i, rfl, hi, hx, rfl, rfl⟩
  refine L_reg [0, 1, 7, 8, 9] (fun K hK => ?_)
  simp
  apply hK; clear hK K
  refine L_dec (i < l.length) (by simp) (fun hlt => ?_) (fun hge => L_exit ?_)
  · obtain ⟨r', rfl, rfl, hrd⟩ := hld i hlt
    rw [ixS_drop _ hlt] at hx
    refine L_block ?_
    refine L_reg [0, 1, 5, 7, 8] (fun K hK => ?_)
    simp
    apply hK; clear hK K
    refine L_reg [0, 1, 5, 7, 8, 16] (fun K hK => ?_)
    simp [okFn_low, hlt, hrd]
    refine lack1_ac _ q s ov o _ _ ho hq hone hov ?_
    simp
    apply hK; clear hK K
    refine L_split rfl (fun ht => ?_) (fun hf => ?_)
    · rw [if_pos ht] at hx
      refine L_reg [4] (fun K hK => ?_)
      simp
      apply hK; clear hK K
      exact L_ret ⟨.inr rfl, _, rfl, by rw [hx] at h; exact h⟩
    · rw [if_neg (by rw [hf]; simp)] at hx
      refine L_reg [0, 1, 7, 8] (fun K hK => ?_)
      simp [wrap_i64 (a := (i : Int) + 1) (by omega)]
      apply hK; clear hK K
      exact ⟨l.length - (i + 1), [.int .i64 (i + 1 : Nat)], by omega, by simp, i + 1, rfl, by omega, hx, rfl, rfl⟩
  · have : i = l.length := by omega
    subst this
    rw [List.drop_length] at hx
    refine L_reg [4] (fun K hK => ?_)
    simp
    apply hK; clear hK K
    exact L_ret ⟨.inr rfl, _, rfl, by rw [hx] at h; exact h⟩
end Go.Proofs.Ytpdcmdmhamnndaa
