/- Outlines, what is reached, open bales, and the spread. -/
import Derived.Test.YtfbpgnjeafadmaaFlo4
namespace Go.Proofs.Ytfbpgnjeafadmaa.Fl
open Go Go.Proofs.Ytfbpgnjeafadmaa Go.Proofs.Ytfbpgnjeafadmaa.AX

def sideS (r c : Nat) (S : Nat → Bool) (b : Int) : Int := 4 - (bes r c S b.toNat : Nat)
def ol (r c : Nat) (S : Nat → Bool) : Int := ((num S).map (sideS r c S)).sum
def olT (r c : Nat) (S : Nat → Bool) (l : List Int) (i : Nat) : Int := ((l.take i).map (sideS r c S)).sum
theorem olT_succ {r c : Nat} {S : Nat → Bool} {l : List Int} {i : Nat} (h : i < l.length) : olT r c S l (i + 1) = olT r c S l i + sideS r c S (g l i) := by
  unfold olT
  rw [List.take_add_one, List.getElem?_eq_getElem h, List.map_append, List.sum_append, g_lt h]
  simp
theorem sideS_range (r c : Nat) (S : Nat → Bool) (b : Int) : 0 ≤ sideS r c S b ∧ sideS r c S b ≤ 4 := by
  have := bes_le (r := r) (c := c) S b.toNat
  unfold sideS
  omega
theorem olT_range (r c : Nat) (S : Nat → Bool) (l : List Int) : ∀ i, i ≤ l.length → 0 ≤ olT r c S l i ∧ olT r c S l i ≤ 4 * i
  | 0, _ => by simp [olT]
  | i + 1, h => by
    have := olT_range r c S l i (by omega)
    have h2 := sideS_range r c S (g l i)
    rw [olT_succ (by omega)]
    omega
theorem num_at {S : Nat → Bool} {i : Nat} (h : i < (num S).length) : ∃ b : Nat, g (num S) i = b ∧ b < 25 ∧ S b = true := by
  have : g (num S) i ∈ num S := by rw [g_lt h]; simp
  obtain ⟨b, h1, h2, h3⟩ := mem_num.1 this
  exact ⟨b, h3, h1, h2⟩
set_option maxRecDepth 100000 in
theorem outline_q {r c : Nat} (hs : Sd r c) (S : Nat → Bool) (hS : ∀ b, S b = true → b < r * c) (H : AH) (Q : AV → AH → Prop) (h : Q (.int .i64 (ol r c S)) H) : AC Try.prog 60 [.agg [.int .i64 r, .int .i64 c], .agg (bA S)] H Q := by
  refine AC.quiet (belB_int _ _ _ _) (fun Q h => ?_) Q h
  have h25 := hs.le
  refine L_body 24 Try.func60 rfl rfl ?_
  refine L_reg [2, 3] (fun K hK => ?_)
  simp [AV.isU, acells]
  apply hK; clear hK K
  have h1 : (H ++ [AObj.row [.int .i64 r, .int .i64 c] 0 0 false, AObj.row (bA S) 0 0 false])[H.length]? = some (.row [.int .i64 r, .int .i64 c] 0 0 false) := by simp
  have h2 : (H ++ [AObj.row [.int .i64 r, .int .i64 c] 0 0 false, AObj.row (bA S) 0 0 false])[H.length + 1]? = some (.row (bA S) 0 0 false) := by simp
  have hE : Ext H (H ++ [AObj.row [.int .i64 r, .int .i64 c] 0 0 false, AObj.row (bA S) 0 0 false]) := .push _ _
  generalize H ++ [AObj.row [.int .i64 r, .int .i64 c] 0 0 false, AObj.row (bA S) 0 0 false] = H1 at h1 h2 hE ⊢
  refine L_reg [2, 3, 5] (fun K hK => ?_)
  simp
  apply hK; clear hK K
  have a2 := ldn_b h2
  refine L_reg [2, 3, 5, 9, 10, 11] (fun K hK => ?_)
  simp [okFn_low, a2]
  refine list_ac S _ _ (fun v H2 hN hE2 => ?_)
  have hO := hN.2
  clear hN
  have hv := ownF_ls hO
  simp [ls_len hv]
  apply hK; clear hK K
  have hnl := num_len S
  replace h1 := hE2.row h1
  replace h2 := hE2.row h2
  replace hE := hE.trans hE2
  clear a2 hO hE2 H1
  have a1 := ldn_f h1
  have a2 := ldn_b h2
  refine L_block (L_loopV [5, 11] (fun q vs H' => ∃ i : Nat, q = (num S).length - i ∧ i ≤ (num S).length ∧ vs = [.int .i64 (olT r c S (num S) i), .int .i64 i] ∧ H2 = H') _ [.int .i64 0, .int .i64 (0 : Nat)] rfl ⟨0, rfl, by omega, rfl, rfl⟩ ?_)
  rintro q _ _ ⟨i, rfl, hi, rfl, rfl⟩
  refine L_reg [2, 3, 5, 9, 10, 11, 12] (fun K hK => ?_)
  simp
  apply hK; clear hK K
  refine L_dec (i < (num S).length) (by simp) (fun hlt => ?_) (fun hge => L_exit ?_)
  · refine L_block ?_
    obtain ⟨rz, pz, vz, hix, hldz⟩ := ls_ix hv hlt
    obtain ⟨b, hb, hb25, hSb⟩ := num_at hlt
    have hst := olT_succ (r := r) (c := c) (S := S) hlt
    have hr := olT_range r c S (num S) (i + 1) (by omega)
    have hr0 := olT_range r c S (num S) i (by omega)
    rw [hb] at hldz hst
    have hside : sideS r c S (b : Int) = 4 - (bes r c S b : Nat) := rfl
    have hbl := bes_le (r := r) (c := c) S b
    rw [hside] at hst
    obtain ⟨m, hm⟩ : ∃ m, bes r c S b = m := ⟨_, rfl⟩
    rw [hm] at hst hbl
    obtain ⟨o, ho⟩ : ∃ o, olT r c S (num S) i = o := ⟨_, rfl⟩
    rw [ho] at hst hr0 ⊢
    refine L_reg [2, 3, 5, 7, 9, 10, 11] (fun K hK => ?_)
    simp [hix, hldz]
    apply hK; clear hK K
    have w1 : IntKind.i64.wrap (4 - (m : Int)) = 4 - m := wrap_i64 (by omega)
    have w2 : IntKind.i64.wrap (o + (4 - (m : Int))) = o + (4 - m) := wrap_i64 (by omega)
    refine L_reg [2, 3, 5, 9, 10, 11] (fun K hK => ?_)
    simp [okFn_low, a1, a2]
    refine beside_q hs b (hS b hSb) S _ _ ?_
    simp [hm, w1, w2]
    apply hK; clear hK K
    refine L_reg [2, 3, 5, 9, 10, 11] (fun K hK => ?_)
    simp [wrap_i64 (a := (i : Int) + 1) (by omega)]
    apply hK; clear hK K
    exact ⟨(num S).length - (i + 1), [.int .i64 (olT r c S (num S) (i + 1)), .int .i64 (i + 1 : Nat)], by omega, by rw [hst]; simp, i + 1, rfl, by omega, rfl, rfl⟩
  · obtain rfl : i = (num S).length := by omega
    have e : olT r c S (num S) (num S).length = ol r c S := by unfold olT ol; rw [List.take_length]
    rw [e]
    refine L_reg [4] (fun K hK => ?_)
    simp
    apply hK; clear hK K
    exact L_ret ⟨.inr rfl, _, rfl, h _ hE⟩
set_option maxRecDepth 100000 in
theorem reached_q {r c n : Nat} (hs : Sd r c) (hn : r * c = n) (k : Nat) (S O : Nat → Bool) (hS : ∀ b, S b = true → b < n) (H : AH) (Q : AV → AH → Prop) (h : Q (.agg (bA (sp r c k O S))) H) : AC Try.prog 75 [.agg [.int .i64 r, .int .i64 c], .agg (bA S), .agg (bA O), .int .i64 k] H Q := by
  refine AC.quiet (belB_m _ _) (fun Q h => ?_) Q h
  have h25 := hs.le
  refine L_body 20 Try.func75 rfl rfl ?_
  obtain ⟨I, hI, hz⟩ := zeroT_some zt79'
  refine L_reg [3, 4, 5, 6, 8] (fun K hK => ?_)
  simp [AV.isU, acells, hI, hz]
  apply hK; clear hK K
  have h4 : (H ++ [AObj.row [.int .i64 r, .int .i64 c] 0 0 false, AObj.row (bA S) 0 0 false, AObj.row (bA O) 0 0 false, AObj.row (bA none') 0 0 false])[H.length]? = some (.row [.int .i64 r, .int .i64 c] 0 0 false) := by simp
  have h5 : (H ++ [AObj.row [.int .i64 r, .int .i64 c] 0 0 false, AObj.row (bA S) 0 0 false, AObj.row (bA O) 0 0 false, AObj.row (bA none') 0 0 false])[H.length + 1]? = some (.row (bA S) 0 0 false) := by simp
  have h6 : (H ++ [AObj.row [.int .i64 r, .int .i64 c] 0 0 false, AObj.row (bA S) 0 0 false, AObj.row (bA O) 0 0 false, AObj.row (bA none') 0 0 false])[H.length + 2]? = some (.row (bA O) 0 0 false) := by simp
  have h8 : (H ++ [AObj.row [.int .i64 r, .int .i64 c] 0 0 false, AObj.row (bA S) 0 0 false, AObj.row (bA O) 0 0 false, AObj.row (bA none') 0 0 false])[H.length + 3]? = some (.row (bA none') 0 0 false) := by simp
  have hE : Ext H (H ++ [AObj.row [.int .i64 r, .int .i64 c] 0 0 false, AObj.row (bA S) 0 0 false, AObj.row (bA O) 0 0 false, AObj.row (bA none') 0 0 false]) := .push _ _
  generalize H ++ [AObj.row [.int .i64 r, .int .i64 c] 0 0 false, AObj.row (bA S) 0 0 false, AObj.row (bA O) 0 0 false, AObj.row (bA none') 0 0 false] = H1 at h4 h5 h6 h8 hE ⊢
  have hl : H.length + 4 ≤ H1.length := by
    have := (List.getElem?_eq_some_iff.1 h8).1
    omega
  refine L_block (L_loopV [] (fun q vs H' => ∃ t : Nat, q = n + 1 - t ∧ t ≤ n ∧ vs = [] ∧ Ext H H' ∧ H.length + 4 ≤ H'.length ∧ H'[H.length]? = some (.row [.int .i64 r, .int .i64 c] 0 0 false) ∧ H'[H.length + 1]? = some (.row (bA (D r c k O S t)) 0 0 false) ∧ H'[H.length + 2]? = some (.row (bA O) 0 0 false) ∧ H'[H.length + 3]? = some (.row (bA none') 0 0 false)) _ [] rfl ⟨0, rfl, by omega, rfl, hE, hl, h4, h5, h6, h8⟩ ?_)
  clear h4 h5 h6 h8 hE hl H1
  rintro q _ H1 ⟨t, rfl, ht, rfl, hE, hl, h4, h5, h6, h8⟩
  refine L_block ?_
  have a4 := ldn_f h4
  have a5 := ldn_b h5
  have a6 := ldn_b h6
  have hst0 : storeV Try.prog 79 (H1 ++ [AObj.row (bA none') 0 0 false]) (.ptr H1.length 0 0) (.agg (bA (D r c k O S (t + 1)))) = some (none, H1 ++ [AObj.row (bA (D r c k O S (t + 1))) 0 0 false]) := by
    rw [st_m (S := none') (s := 0) (by simp)]
    simp
  refine L_reg [3, 4, 5, 6, 8, 9] (fun K hK => ?_)
  simp [okFn_low, a4, a5, a6]
  refine grown_q hs hn k _ _ _ _ ?_
  simp [← D_succ, hI, hz, hst0]
  apply hK; clear hK K
  have h9 : (H1 ++ [AObj.row (bA (D r c k O S (t + 1))) 0 0 false])[H1.length]? = some (.row (bA (D r c k O S (t + 1))) 0 0 false) := by simp
  have hE2 : Ext H1 (H1 ++ [AObj.row (bA (D r c k O S (t + 1))) 0 0 false]) := .push _ _
  have hL2 : (H1 ++ [AObj.row (bA (D r c k O S (t + 1))) 0 0 false]).length = H1.length + 1 := by simp
  replace h4 := hE2.row h4
  replace h5 := hE2.row h5
  replace h6 := hE2.row h6
  replace h8 := hE2.row h8
  replace hE := hE.trans hE2
  obtain ⟨w, hw⟩ : ∃ w, H1.length = w := ⟨_, rfl⟩
  rw [hw] at h9 hL2 hl ⊢
  clear hst0 a4 a5 a6 hE2
  generalize H1 ++ [AObj.row (bA (D r c k O S (t + 1))) 0 0 false] = H2 at h4 h5 h6 h8 h9 hE hL2 ⊢
  have a5 := ldn_b h5
  have a9 := ldn_b h9
  refine L_reg [3, 4, 5, 6, 8, 9, 17] (fun K hK => ?_)
  simp [a9, a5, b_eqB]
  apply hK; clear hK K
  refine L_split rfl (fun hx => ?_) (fun hx => ?_)
  · have hx : ((List.range 25).all fun i => D r c k O S (t + 1) i == D r c k O S t i) = true := by simpa using hx
    have he : D r c k O S (t + 1) = D r c k O S t := by
      funext b
      by_cases hb : b < 25
      · exact all_eq.1 hx b hb
      · have f : ∀ u, D r c k O S u b = false := fun u => by
          cases hd : D r c k O S u b with
          | false => rfl
          | true => have := D_sup (by rw [hn]; exact hS) u b hd; omega
        rw [f, f]
    rw [sp_stop (by rw [hn]; exact hS) he] at h5 a5
    have hst := st_m (T := sp r c k O S) h8
    refine L_reg [8] (fun K hK => ?_)
    simp [a5, hst]
    apply hK; clear hK K
    refine L_ret ⟨.inr rfl, _, res_cell rfl ?_, h _ (hE.set _ (by omega))⟩
    simp [ldn_b (get_set h8)]
  · have hx : ¬ ((List.range 25).all fun i => D r c k O S (t + 1) i == D r c k O S t i) = true := by simpa using hx
    have htn : t ≠ n := by
      intro h0
      apply hx
      rw [all_eq]
      intro b _
      rw [h0, ← hn, D_fix (by rw [hn]; exact hS)]
    have hst := st_m (T := D r c k O S (t + 1)) h5
    refine L_reg [3, 4, 5, 6, 8] (fun K hK => ?_)
    simp [a9, hst]
    apply hK; clear hK K
    refine ⟨n + 1 - (t + 1), [], by omega, by simp, t + 1, rfl, by omega, rfl, hE.set _ (by omega), by simp; omega, ?_, get_set h5, ?_, ?_⟩
    · rw [List.getElem?_set_ne (by omega)]; exact h4
    · rw [List.getElem?_set_ne (by omega)]; exact h6
    · rw [List.getElem?_set_ne (by omega)]; exact h8
end Go.Proofs.Ytfbpgnjeafadmaa.Fl
