/- All bales, some without others, the numbers of some, what grows and what is reached. -/
import Derived.Test.YtfbpgnjeafadmaaFlo2
namespace Go.Proofs.Ytfbpgnjeafadmaa.Fl
open Go Go.Proofs.Ytfbpgnjeafadmaa Go.Proofs.Ytfbpgnjeafadmaa.AX

def lt' (n : Nat) : Nat → Bool := fun b => decide (b < n)
theorem upd_lt (i : Nat) : upd (lt' i) i true = lt' (i + 1) := by
  funext b
  unfold upd lt'
  split
  · rename_i h; subst h; simp
  · congr 1; simp; omega
set_option maxRecDepth 100000 in
theorem all_q {r c n : Nat} (hs : Sd r c) (hn : r * c = n) (H : AH) (Q : AV → AH → Prop) (h : Q (.agg (bA (lt' n))) H) : AC Try.prog 73 [.agg [.int .i64 r, .int .i64 c]] H Q := by
  refine AC.quiet (belB_m _ _) (fun Q h => ?_) Q h
  have h25 := hs.le
  rw [hn] at h25
  refine L_body 14 Try.func73 rfl rfl ?_
  obtain ⟨I, hI, hz⟩ := zeroT_some zt79'
  refine L_reg [1, 2] (fun K hK => ?_)
  simp [AV.isU, acells, hI, hz]
  apply hK; clear hK K
  refine L_reg [1, 2, 3] (fun K hK => ?_)
  simp [hI, hz]
  apply hK; clear hK K
  have h1 : (H ++ [AObj.row [.int .i64 r, .int .i64 c] 0 0 false, AObj.row (bA none') 0 0 false, AObj.row (bA none') 0 0 false])[H.length]? = some (.row [.int .i64 r, .int .i64 c] 0 0 false) := by simp
  have h2 : (H ++ [AObj.row [.int .i64 r, .int .i64 c] 0 0 false, AObj.row (bA none') 0 0 false, AObj.row (bA none') 0 0 false])[H.length + 1]? = some (.row (bA none') 0 0 false) := by simp
  have h3 : (H ++ [AObj.row [.int .i64 r, .int .i64 c] 0 0 false, AObj.row (bA none') 0 0 false, AObj.row (bA none') 0 0 false])[H.length + 2]? = some (.row (bA none') 0 0 false) := by simp
  have hE : Ext H (H ++ [AObj.row [.int .i64 r, .int .i64 c] 0 0 false, AObj.row (bA none') 0 0 false, AObj.row (bA none') 0 0 false]) := .push _ _
  generalize H ++ [AObj.row [.int .i64 r, .int .i64 c] 0 0 false, AObj.row (bA none') 0 0 false, AObj.row (bA none') 0 0 false] = H1 at h1 h2 h3 hE ⊢
  have a0 := ldn_f h1
  refine L_reg [2, 3, 6, 7] (fun K hK => ?_)
  simp [okFn_low, a0]
  refine size_q hs hn _ _ ?_
  simp
  apply hK; clear hK K
  refine L_block (L_loopV [7] (fun q vs H' => ∃ (i s : Nat), q = n - i ∧ i ≤ n ∧ vs = [.int .i64 i] ∧ Ext H H' ∧ H'[H.length + 1]? = some (.row (bA none') 0 0 false) ∧ H'[H.length + 2]? = some (.row (bA (lt' i)) 0 s false)) _ [.int .i64 (0 : Nat)] rfl ⟨0, 0, rfl, by omega, rfl, hE, h2, by rw [h3, bA_ext (S := none') (T := lt' 0) (fun b _ => by simp [none', lt'])]⟩ ?_)
  clear h1 h2 h3 hE a0 H1
  rintro q _ H1 ⟨i, s, rfl, hi, rfl, hE, h2, h3⟩
  refine L_reg [2, 3, 6, 7, 8] (fun K hK => ?_)
  simp
  apply hK; clear hK K
  refine L_dec (i < n) (by simp) (fun hlt => ?_) (fun hge => L_exit ?_)
  · refine L_block ?_
    have hi25 : i < 25 := by omega
    have hii : (i : Int) < 25 := by omega
    have hst := st_b (v := true) h3 hi25
    rw [upd_lt] at hst
    refine L_reg [2, 3, 4, 6, 7] (fun K hK => ?_)
    simp
    apply hK; clear hK K
    refine L_reg [2, 3, 6, 7] (fun K hK => ?_)
    simp [hii, hst]
    apply hK; clear hK K
    refine L_reg [2, 3, 6, 7] (fun K hK => ?_)
    simp [wrap_i64 (a := (i : Int) + 1) (by omega)]
    apply hK; clear hK K
    refine ⟨n - (i + 1), [.int .i64 (i + 1 : Nat)], by omega, by simp, i + 1, min s i, rfl, by omega, rfl, hE.set _ (by omega), ?_, get_set h3⟩
    rw [List.getElem?_set_ne (by omega)]; exact h2
  · have e : i = n := by omega
    subst e
    have l := ldn_b h3
    have hst := st_m (T := lt' i) h2
    refine L_reg [2] (fun K hK => ?_)
    simp [l, hst]
    apply hK; clear hK K
    refine L_ret ⟨.inr rfl, _, res_cell rfl ?_, h _ (hE.set _ (by omega))⟩
    simp [ldn_b (get_set h2)]
/-- Some without others. -/
def sub' (S T : Nat → Bool) : Nat → Bool := fun b => S b && !T b
def or' (S T : Nat → Bool) : Nat → Bool := fun b => S b || T b
def upTo (i : Nat) (S T : Nat → Bool) : Nat → Bool := fun b => if b < i then T b else S b
theorem upd_to (i : Nat) (S T : Nat → Bool) : upd (upTo i S T) i (T i) = upTo (i + 1) S T := by
  funext b
  unfold upd upTo
  by_cases h : b = i
  · subst h; simp
  · rw [if_neg h]
    by_cases h2 : b < i
    · rw [if_pos h2, if_pos (by omega)]
    · rw [if_neg h2, if_neg (by omega)]
theorem upTo_zero (S T : Nat → Bool) : upTo 0 S T = S := by funext b; simp [upTo]
theorem upTo_all (S T : Nat → Bool) : bA (upTo 25 S T) = bA T := bA_ext fun b hb => by simp [upTo, hb]
theorem upTo_self (i : Nat) (S T : Nat → Bool) : upTo i S T i = S i := by simp [upTo]
set_option maxRecDepth 100000 in
theorem without_q (S T : Nat → Bool) (H : AH) (Q : AV → AH → Prop) (h : Q (.agg (bA (sub' S T))) H) : AC Try.prog 80 [.agg (bA S), .agg (bA T)] H Q := by
  refine AC.quiet (belB_m _ _) (fun Q h => ?_) Q h
  refine L_body 23 Try.func80 rfl rfl ?_
  obtain ⟨I, hI, hz⟩ := zeroT_some zt79'
  refine L_reg [2, 3, 4] (fun K hK => ?_)
  simp [AV.isU, acells, hI, hz]
  apply hK; clear hK K
  have h1 : (H ++ [AObj.row (bA S) 0 0 false, AObj.row (bA T) 0 0 false, AObj.row (bA none') 0 0 false])[H.length]? = some (.row (bA S) 0 0 false) := by simp
  have h2 : (H ++ [AObj.row (bA S) 0 0 false, AObj.row (bA T) 0 0 false, AObj.row (bA none') 0 0 false])[H.length + 1]? = some (.row (bA T) 0 0 false) := by simp
  have h3 : (H ++ [AObj.row (bA S) 0 0 false, AObj.row (bA T) 0 0 false, AObj.row (bA none') 0 0 false])[H.length + 2]? = some (.row (bA none') 0 0 false) := by simp
  have hE : Ext H (H ++ [AObj.row (bA S) 0 0 false, AObj.row (bA T) 0 0 false, AObj.row (bA none') 0 0 false]) := .push _ _
  generalize H ++ [AObj.row (bA S) 0 0 false, AObj.row (bA T) 0 0 false, AObj.row (bA none') 0 0 false] = H1 at h1 h2 h3 hE ⊢
  have a0 := ldn_b h2
  refine L_reg [2, 4, 7, 8] (fun K hK => ?_)
  simp [a0]
  apply hK; clear hK K
  refine L_block (L_loopV [8] (fun q vs H' => ∃ (i s : Nat), q = 25 - i ∧ i ≤ 25 ∧ vs = [.int .i64 i] ∧ Ext H H' ∧ H'[H.length]? = some (.row (bA (upTo i S (sub' S T))) 0 s false) ∧ H'[H.length + 2]? = some (.row (bA none') 0 0 false)) _ [.int .i64 (0 : Nat)] rfl ⟨0, 0, rfl, by omega, rfl, hE, by rw [upTo_zero]; exact h1, h3⟩ ?_)
  clear h1 h2 h3 hE a0 H1
  rintro q _ H1 ⟨i, s, rfl, hi, rfl, hE, h1, h3⟩
  refine L_reg [2, 4, 7, 8, 9] (fun K hK => ?_)
  simp
  apply hK; clear hK K
  refine L_dec (i < 25) (by simp; omega) (fun hlt => ?_) (fun hge => L_exit ?_)
  · refine L_block ?_
    have hii : (i : Int) < 25 := by omega
    have a1 := ld_b h1 hlt
    rw [upTo_self] at a1
    have a2 := ix79 (S := T) hlt
    have hst := st_b (v := sub' S T i) h1 hlt
    rw [upd_to] at hst
    refine L_reg [2, 4, 5, 6, 7, 8] (fun K hK => ?_)
    simp [a2]
    apply hK; clear hK K
    refine L_reg [2, 4, 7, 8] (fun K hK => ?_)
    suffices hk : K [(2, .ptr H.length 0 0), (4, .ptr (H.length + 2) 0 0), (7, .agg (bA T)), (8, .int .i64 i)] (H1.set H.length (.row (bA (upTo (i + 1) S (sub' S T))) 0 (min s i) false)) by
      cases hsi : S i with
      | true =>
        have e : sub' S T i = !T i := by simp [sub', hsi]
        rw [e] at hst
        simp [hii, a1, hsi, pickV, hst]
        exact hk
      | false =>
        have e : sub' S T i = false := by simp [sub', hsi]
        rw [e] at hst
        simp [hii, a1, hsi, pickV, hst]
        exact hk
    apply hK; clear hK K
    refine L_reg [2, 4, 7, 8] (fun K hK => ?_)
    simp [wrap_i64 (a := (i : Int) + 1) (by omega)]
    apply hK; clear hK K
    refine ⟨25 - (i + 1), [.int .i64 (i + 1 : Nat)], by omega, by simp, i + 1, min s i, rfl, by omega, rfl, hE.set _ (by omega), get_set h1, ?_⟩
    rw [List.getElem?_set_ne (by omega)]; exact h3
  · have e : i = 25 := by omega
    subst e
    rw [upTo_all] at h1
    have l := ldn_b h1
    have hst := st_m (T := sub' S T) h3
    refine L_reg [4] (fun K hK => ?_)
    simp [l, hst]
    apply hK; clear hK K
    refine L_ret ⟨.inr rfl, _, res_cell rfl ?_, h _ (hE.set _ (by omega))⟩
    simp [ldn_b (get_set h3)]
end Go.Proofs.Ytfbpgnjeafadmaa.Fl
