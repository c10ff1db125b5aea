/- Some with others, the numbers of some, what grows, what is reached, and outlines. -/
import Derived.Test.YtfbpgnjeafadmaaFlo3
namespace Go.Proofs.Ytfbpgnjeafadmaa.Fl
open Go Go.Proofs.Ytfbpgnjeafadmaa Go.Proofs.Ytfbpgnjeafadmaa.AX

set_option maxRecDepth 100000 in
theorem and_q (S T : Nat → Bool) (H : AH) (Q : AV → AH → Prop) (h : Q (.agg (bA (or' S T))) H) : AC Try.prog 92 [.agg (bA S), .agg (bA T)] H Q := by
  refine AC.quiet (belB_m _ _) (fun Q h => ?_) Q h
  refine L_body 22 Try.func92 rfl rfl ?_
  obtain ⟨I, hI, hz⟩ := zeroT_some zt79'
  refine L_reg [2, 3, 4] (fun K hK => ?_)
  simp [AV.isU, acells, hI, hz]
  apply hK; clear hK K
  have h1 : (H ++ [AObj.row (bA S) 0 0 false, AObj.row (bA T) 0 0 false, AObj.row (bA none') 0 0 false])[H.length]? = some (.row (bA S) 0 0 false) := by simp
  have h2 : (H ++ [AObj.row (bA S) 0 0 false, AObj.row (bA T) 0 0 false, AObj.row (bA none') 0 0 false])[H.length + 1]? = some (.row (bA T) 0 0 false) := by simp
  have h3 : (H ++ [AObj.row (bA S) 0 0 false, AObj.row (bA T) 0 0 false, AObj.row (bA none') 0 0 false])[H.length + 2]? = some (.row (bA none') 0 0 false) := by simp
  have hE : Ext H (H ++ [AObj.row (bA S) 0 0 false, AObj.row (bA T) 0 0 false, AObj.row (bA none') 0 0 false]) := .push _ _
  generalize H ++ [AObj.row (bA S) 0 0 false, AObj.row (bA T) 0 0 false, AObj.row (bA none') 0 0 false] = H1 at h1 h2 h3 hE ⊢
  have a0 := ldn_b h2
  refine L_reg [2, 4, 7, 8] (fun K hK => ?_)
  simp [a0]
  apply hK; clear hK K
  refine L_block (L_loopV [8] (fun q vs H' => ∃ (i s : Nat), q = 25 - i ∧ i ≤ 25 ∧ vs = [.int .i64 i] ∧ Ext H H' ∧ H'[H.length]? = some (.row (bA (upTo i S (or' S T))) 0 s false) ∧ H'[H.length + 2]? = some (.row (bA none') 0 0 false)) _ [.int .i64 (0 : Nat)] rfl ⟨0, 0, rfl, by omega, rfl, hE, by rw [upTo_zero]; exact h1, h3⟩ ?_)
  clear h1 h2 h3 hE a0 H1
  rintro q _ H1 ⟨i, s, rfl, hi, rfl, hE, h1, h3⟩
  refine L_reg [2, 4, 7, 8, 9] (fun K hK => ?_)
  simp
  apply hK; clear hK K
  refine L_dec (i < 25) (by simp; omega) (fun hlt => ?_) (fun hge => L_exit ?_)
  · refine L_block ?_
    have hii : (i : Int) < 25 := by omega
    have a1 := ld_b h1 hlt
    rw [upTo_self] at a1
    have a2 := ix79 (S := T) hlt
    have hst := st_b (v := or' S T i) h1 hlt
    rw [upd_to] at hst
    refine L_reg [2, 4, 5, 6, 7, 8] (fun K hK => ?_)
    simp [a2]
    apply hK; clear hK K
    refine L_reg [2, 4, 7, 8] (fun K hK => ?_)
    suffices hk : K [(2, .ptr H.length 0 0), (4, .ptr (H.length + 2) 0 0), (7, .agg (bA T)), (8, .int .i64 i)] (H1.set H.length (.row (bA (upTo (i + 1) S (or' S T))) 0 (min s i) false)) by
      cases hsi : S i with
      | true =>
        have e : or' S T i = true := by simp [or', hsi]
        rw [e] at hst
        simp [hii, a1, hsi, pickV, hst]
        exact hk
      | false =>
        have e : or' S T i = T i := by simp [or', hsi]
        rw [e] at hst
        simp [hii, a1, hsi, pickV, hst]
        exact hk
    apply hK; clear hK K
    refine L_reg [2, 4, 7, 8] (fun K hK => ?_)
    simp [wrap_i64 (a := (i : Int) + 1) (by omega)]
    apply hK; clear hK K
    refine ⟨25 - (i + 1), [.int .i64 (i + 1 : Nat)], by omega, by simp, i + 1, min s i, rfl, by omega, rfl, hE.set _ (by omega), get_set h1, ?_⟩
    rw [List.getElem?_set_ne (by omega)]; exact h3
  · have e : i = 25 := by omega
    subst e
    rw [upTo_all] at h1
    have l := ldn_b h1
    have hst := st_m (T := or' S T) h3
    refine L_reg [4] (fun K hK => ?_)
    simp [l, hst]
    apply hK; clear hK K
    refine L_ret ⟨.inr rfl, _, res_cell rfl ?_, h _ (hE.set _ (by omega))⟩
    simp [ldn_b (get_set h3)]

def g (l : List Int) (i : Nat) : Int := l.getD i 0
theorem g_lt {c : List Int} {i : Nat} (h : i < c.length) : g c i = c[i] := by simp [g, List.getD_eq_getElem?_getD, h]
theorem ls_len {H : AH} {v : AV} {l : List Int} (h : Ls H v l) : aLen Try.prog 22 v = some (.int .i64 l.length) := by
  obtain ⟨r, off, ver, sz, full, rfl, -⟩ := h
  exact len22 ..
theorem ls_ix {H : AH} {v : AV} {l : List Int} (h : Ls H v l) {i : Nat} (hi : i < l.length) : ∃ r p ver, (∀ k, aIndexAddr Try.prog 22 v (.int k (i : Int)) = some (.ptr r p ver)) ∧ ld H r p ver = some (.int .i64 (g l i)) := by
  obtain ⟨r, off, ver, sz, full, rfl, hld⟩ := h
  obtain ⟨r', rfl, rfl, h3⟩ := hld i hi
  refine ⟨r', off + i, ver, fun k => ?_, by rw [h3, g_lt hi]⟩
  rw [ixa22]
  simp
  omega
theorem ownF_ls {N : Nat} {H : AH} {v : AV} {l : List Int} (h : OwnF N H v (l.map (.int .i64))) : Ls H v l := by
  rcases h with ⟨h1, rfl⟩ | ⟨r, ver, stale, h1, rfl, h3⟩
  · obtain rfl : l = [] := by simpa using h1
    exact Ls.nil H
  · have := Ls.row h3 false
    simpa using this
theorem ownF_keep {N : Nat} {H H' : AH} {v : AV} {l : List AV} (h : OwnF N H v l) (hE : ∀ (j : Nat) (o : AObj), N ≤ j → H[j]? = some o → H'[j]? = some o) : OwnF N H' v l := by
  rcases h with h | ⟨r, ver, stale, h1, h2, h3⟩
  · exact .inl h
  · exact .inr ⟨r, ver, stale, h1, h2, hE r _ h1 h3⟩
theorem ownF_less {N M : Nat} {H : AH} {v : AV} {l : List AV} (h : OwnF N H v l) (hM : M ≤ N) : OwnF M H v l := by
  rcases h with h | ⟨r, ver, stale, h1, h2, h3⟩
  · exact .inl h
  · exact .inr ⟨r, ver, stale, by omega, h2, h3⟩
/-- A list of one's own, nil when it is empty. -/
def OwnN (N : Nat) (H : AH) (v : AV) (l : List Int) : Prop := (l = [] → v = .slice none 0 0 0 1 false) ∧ OwnF N H v (l.map (.int .i64))
set_option maxRecDepth 100000 in
theorem list_ac (S : Nat → Bool) (H : AH) (Q : AV → AH → Prop) (h : ∀ v' H', OwnN H.length H' v' (num S) → Ext H H' → Q v' H') : AC Try.prog 55 [.agg (bA S)] H Q := by
  refine L_body 18 Try.func55 rfl rfl ?_
  refine L_reg [1] (fun K hK => ?_)
  simp [AV.isU, acells]
  apply hK; clear hK K
  have h1 : (H ++ [AObj.row (bA S) 0 0 false])[H.length]? = some (.row (bA S) 0 0 false) := by simp
  have hE : Ext H (H ++ [AObj.row (bA S) 0 0 false]) := .push _ _
  generalize H ++ [AObj.row (bA S) 0 0 false] = H1 at h1 hE ⊢
  have a0 := ldn_b h1
  refine L_reg [1, 3] (fun K hK => ?_)
  simp
  apply hK; clear hK K
  refine L_reg [3, 6, 7] (fun K hK => ?_)
  simp [a0]
  apply hK; clear hK K
  refine L_block (L_loopV [3, 7] (fun q vs H' => ∃ (i : Nat) (u : AV), q = 25 - i ∧ i ≤ 25 ∧ vs = [u, .int .i64 i] ∧ Ext H H' ∧ OwnN H.length H' u (numT i S)) _ [.slice none 0 0 0 1 false, .int .i64 (0 : Nat)] rfl ⟨0, _, rfl, by omega, rfl, hE, fun _ => rfl, OwnF.nil _ _⟩ ?_)
  clear h1 hE a0 H1
  rintro q _ H1 ⟨i, u, rfl, hi, rfl, hE, hN, hO⟩
  refine L_reg [3, 6, 7, 8] (fun K hK => ?_)
  simp
  apply hK; clear hK K
  refine L_dec (i < 25) (by simp; omega) (fun hlt => ?_) (fun hge => L_exit ?_)
  · refine L_block ?_
    have a2 := ix79 (S := S) hlt
    have hsu := numT_succ i S
    have hll : (numT i S).length ≤ 25 := by
      unfold numT
      rw [List.length_map]
      exact Nat.le_trans (List.length_filter_le ..) (by simp; omega)
    refine L_reg [3, 4, 5, 6, 7] (fun K hK => ?_)
    simp [a2]
    apply hK; clear hK K
    refine L_reg [3, 4, 6, 7, 11] (fun K hK => ?_)
    simp
    apply hK; clear hK K
    cases hb : S i with
    | true =>
      rw [hb, if_pos rfl] at hsu
      obtain ⟨u', H3, happ, hO3, hE3⟩ := ownF_append (P := Try.prog) hE el22 el22 (x := .int .i64 i) (m := 1) hO rfl (by simp; omega)
      refine L_true (by simp) ?_
      refine L_reg [3, 6, 7] (fun K hK => ?_)
      simp [happ]
      apply hK; clear hK K
      refine L_reg [3, 6, 7] (fun K hK => ?_)
      simp [wrap_i64 (a := (i : Int) + 1) (by omega)]
      apply hK; clear hK K
      refine ⟨25 - (i + 1), [u', .int .i64 (i + 1 : Nat)], by omega, by simp, i + 1, u', rfl, by omega, rfl, hE3, fun h0 => ?_, ?_⟩
      · rw [hsu] at h0; simp at h0
      · rw [hsu]
        simpa using hO3
    | false =>
      rw [hb, if_neg (by decide), List.append_nil] at hsu
      refine L_false (by simp) ?_
      refine L_reg [3, 6, 7] (fun K hK => ?_)
      simp [wrap_i64 (a := (i : Int) + 1) (by omega)]
      apply hK; clear hK K
      exact ⟨25 - (i + 1), [u, .int .i64 (i + 1 : Nat)], by omega, by simp, i + 1, u, rfl, by omega, rfl, hE, fun h0 => hN (by rw [← hsu]; exact h0), by rw [hsu]; exact hO⟩
  · obtain rfl : i = 25 := by omega
    rw [num_all] at hO hN
    refine L_reg [2] (fun K hK => ?_)
    simp
    apply hK; clear hK K
    exact L_ret ⟨.inr rfl, _, rfl, h _ _ ⟨hN, hO⟩ hE⟩
/-- What grows, so far. -/
def nxp (r c k : Nat) (O S : Nat → Bool) (i b : Nat) : Bool := S b || (decide (b < i) && (O b && decide (k ≤ bes r c S b)))
theorem nxp_zero (r c k : Nat) (O S : Nat → Bool) : nxp r c k O S 0 = S := by funext b; simp [nxp]
theorem nxp_all (r c k : Nat) (O S : Nat → Bool) : nxp r c k O S (r * c) = nxt r c k O S := rfl
theorem nxp_succ_t {r c k i : Nat} {O S : Nat → Bool} (h : (O i && decide (k ≤ bes r c S i)) = true) : upd (nxp r c k O S i) i true = nxp r c k O S (i + 1) := by
  funext b
  unfold upd nxp
  by_cases hb : b = i
  · subst hb; rw [if_pos rfl, h]; simp
  · rw [if_neg hb]
    have : (decide (b < i)) = decide (b < i + 1) := by congr 1; simp; omega
    rw [this]
theorem nxp_succ_f {r c k i : Nat} {O S : Nat → Bool} (h : (O i && decide (k ≤ bes r c S i)) = false) : nxp r c k O S i = nxp r c k O S (i + 1) := by
  funext b
  unfold nxp
  by_cases hb : b = i
  · subst hb; rw [h]; simp
  · have : (decide (b < i)) = decide (b < i + 1) := by congr 1; simp; omega
    rw [this]
set_option maxRecDepth 100000 in
theorem grown_q {r c n : Nat} (hs : Sd r c) (hn : r * c = n) (k : Nat) (S O : Nat → Bool) (H : AH) (Q : AV → AH → Prop) (h : Q (.agg (bA (nxt r c k O S))) H) : AC Try.prog 88 [.agg [.int .i64 r, .int .i64 c], .agg (bA S), .agg (bA O), .int .i64 k] H Q := by
  refine AC.quiet (belB_m _ _) (fun Q h => ?_) Q h
  have h25 := hs.le
  rw [← nxp_all] at h
  rw [hn] at h h25
  refine L_body 32 Try.func88 rfl rfl ?_
  obtain ⟨I, hI, hz⟩ := zeroT_some zt79'
  refine L_reg [3, 4, 5, 6, 8] (fun K hK => ?_)
  simp [AV.isU, acells, hI, hz]
  apply hK; clear hK K
  have h4 : (H ++ [AObj.row [.int .i64 r, .int .i64 c] 0 0 false, AObj.row (bA S) 0 0 false, AObj.row (bA O) 0 0 false, AObj.row (bA none') 0 0 false])[H.length]? = some (.row [.int .i64 r, .int .i64 c] 0 0 false) := by simp
  have h5 : (H ++ [AObj.row [.int .i64 r, .int .i64 c] 0 0 false, AObj.row (bA S) 0 0 false, AObj.row (bA O) 0 0 false, AObj.row (bA none') 0 0 false])[H.length + 1]? = some (.row (bA S) 0 0 false) := by simp
  have h6 : (H ++ [AObj.row [.int .i64 r, .int .i64 c] 0 0 false, AObj.row (bA S) 0 0 false, AObj.row (bA O) 0 0 false, AObj.row (bA none') 0 0 false])[H.length + 2]? = some (.row (bA O) 0 0 false) := by simp
  have h8 : (H ++ [AObj.row [.int .i64 r, .int .i64 c] 0 0 false, AObj.row (bA S) 0 0 false, AObj.row (bA O) 0 0 false, AObj.row (bA none') 0 0 false])[H.length + 3]? = some (.row (bA none') 0 0 false) := by simp
  have hl1 : (H ++ [AObj.row [.int .i64 r, .int .i64 c] 0 0 false, AObj.row (bA S) 0 0 false, AObj.row (bA O) 0 0 false, AObj.row (bA none') 0 0 false]).length = H.length + 4 := by simp
  have hE : Ext H (H ++ [AObj.row [.int .i64 r, .int .i64 c] 0 0 false, AObj.row (bA S) 0 0 false, AObj.row (bA O) 0 0 false, AObj.row (bA none') 0 0 false]) := .push _ _
  generalize H ++ [AObj.row [.int .i64 r, .int .i64 c] 0 0 false, AObj.row (bA S) 0 0 false, AObj.row (bA O) 0 0 false, AObj.row (bA none') 0 0 false] = H1 at h4 h5 h6 h8 hl1 hE ⊢
  have a5 := ldn_b h5
  have a4 := ldn_f h4
  have hst0 : storeV Try.prog 79 (H1 ++ [AObj.row (bA none') 0 0 false]) (.ptr H1.length 0 0) (.agg (bA S)) = some (none, H1 ++ [AObj.row (bA S) 0 0 false]) := by
    rw [st_m (S := none') (s := 0) (by simp)]
    simp
  refine L_reg [3, 4, 5, 6, 8, 9] (fun K hK => ?_)
  simp [a5, hI, hz, hst0]
  apply hK; clear hK K
  have h9 : (H1 ++ [AObj.row (bA S) 0 0 false])[H.length + 4]? = some (.row (bA S) 0 0 false) := by rw [← hl1]; simp
  have hE2 : Ext H1 (H1 ++ [AObj.row (bA S) 0 0 false]) := .push _ _
  replace h4 := hE2.row h4
  replace h5 := hE2.row h5
  replace h6 := hE2.row h6
  replace h8 := hE2.row h8
  replace hE := hE.trans hE2
  rw [hl1]
  clear hst0 a4 a5 hE2
  generalize H1 ++ [AObj.row (bA S) 0 0 false] = H2 at h4 h5 h6 h8 h9 hE ⊢
  have a4 := ldn_f h4
  refine L_reg [3, 4, 5, 6, 8, 9, 13, 14] (fun K hK => ?_)
  simp [okFn_low, a4]
  refine size_q hs hn _ _ ?_
  simp
  apply hK; clear hK K
  refine L_block (L_loopV [14] (fun q vs H' => ∃ (i s : Nat), q = n - i ∧ i ≤ n ∧ vs = [.int .i64 i] ∧ Ext H H' ∧ H'[H.length]? = some (.row [.int .i64 r, .int .i64 c] 0 0 false) ∧ H'[H.length + 1]? = some (.row (bA S) 0 0 false) ∧ H'[H.length + 2]? = some (.row (bA O) 0 0 false) ∧ H'[H.length + 3]? = some (.row (bA none') 0 0 false) ∧ H'[H.length + 4]? = some (.row (bA (nxp r c k O S i)) 0 s false)) _ [.int .i64 (0 : Nat)] rfl ⟨0, 0, rfl, by omega, rfl, hE, h4, h5, h6, h8, by rw [nxp_zero]; exact h9⟩ ?_)
  clear h4 h5 h6 h8 h9 hE a4 H2
  rintro q _ H1 ⟨i, s, rfl, hi, rfl, hE, h4, h5, h6, h8, h9⟩
  refine L_reg [3, 4, 5, 6, 8, 9, 13, 14, 15] (fun K hK => ?_)
  simp
  apply hK; clear hK K
  refine L_dec (i < n) (by simp) (fun hlt => ?_) (fun hge => L_exit ?_)
  · refine L_block ?_
    have hi25 : i < 25 := by omega
    have hii : (i : Int) < 25 := by omega
    have a4 := ldn_f h4
    have a5 := ldn_b h5
    have a6 := ld_b h6 hi25
    have hst := st_b (v := true) h9 hi25
    refine L_reg [3, 4, 5, 6, 8, 9, 10, 13, 14] (fun K hK => ?_)
    simp
    apply hK; clear hK K
    obtain ⟨t, ht⟩ : ∃ t, (O i && decide (k ≤ bes r c S i)) = t := ⟨_, rfl⟩
    refine L_reg [3, 4, 5, 6, 8, 9, 10, 13, 14, 27] (fun K hK => ?_)
    suffices hk : K [(3, .int .i64 k), (4, .ptr H.length 0 0), (5, .ptr (H.length + 1) 0 0), (6, .ptr (H.length + 2) 0 0), (8, .ptr (H.length + 3) 0 0), (9, .ptr (H.length + 4) 0 0), (10, .int .i64 i), (13, .int .i64 n), (14, .int .i64 i), (27, .bool t)] H1 by
      cases ho : O i with
      | false =>
        rw [ho, Bool.false_and] at ht
        subst ht
        simp [hii, a6, ho, pickV]
        exact hk
      | true =>
        rw [ho, Bool.true_and] at ht
        subst ht
        simp [okFn_low, hii, a6, ho, a4, a5]
        refine beside_q hs i (by omega) S _ _ ?_
        simp [pickV]
        exact hk
    apply hK; clear hK K
    cases t with
    | true =>
      rw [nxp_succ_t ht] at hst
      refine L_true (by simp) ?_
      refine L_reg [3, 4, 5, 6, 8, 9, 13, 14] (fun K hK => ?_)
      simp [hii, hst]
      apply hK; clear hK K
      refine L_reg [3, 4, 5, 6, 8, 9, 13, 14] (fun K hK => ?_)
      simp [wrap_i64 (a := (i : Int) + 1) (by omega)]
      apply hK; clear hK K
      refine ⟨n - (i + 1), [.int .i64 (i + 1 : Nat)], by omega, by simp, i + 1, min s i, rfl, by omega, rfl, hE.set _ (by omega), ?_, ?_, ?_, ?_, get_set h9⟩
      · rw [List.getElem?_set_ne (by omega)]; exact h4
      · rw [List.getElem?_set_ne (by omega)]; exact h5
      · rw [List.getElem?_set_ne (by omega)]; exact h6
      · rw [List.getElem?_set_ne (by omega)]; exact h8
    | false =>
      rw [nxp_succ_f ht] at h9
      refine L_false (by simp) ?_
      refine L_reg [3, 4, 5, 6, 8, 9, 13, 14] (fun K hK => ?_)
      simp [wrap_i64 (a := (i : Int) + 1) (by omega)]
      apply hK; clear hK K
      exact ⟨n - (i + 1), [.int .i64 (i + 1 : Nat)], by omega, by simp, i + 1, s, rfl, by omega, rfl, hE, h4, h5, h6, h8, h9⟩
  · obtain rfl : i = n := by omega
    have l := ldn_b h9
    have hst := st_m (T := nxp r c k O S i) h8
    refine L_reg [8] (fun K hK => ?_)
    simp [l, hst]
    apply hK; clear hK K
    refine L_ret ⟨.inr rfl, _, res_cell rfl ?_, h _ (hE.set _ (by omega))⟩
    simp [ldn_b (get_set h8)]
end Go.Proofs.Ytfbpgnjeafadmaa.Fl
