/- The rule by which any so many holders may open. -/
import Derived.Test.YtcidcihpkdoejaaPub3
namespace Go.Proofs.Ytcidcihpkdoejaa.Bo
open Go Go.Proofs.Ytcidcihpkdoejaa Go.Proofs.Ytcidcihpkdoejaa.AX
set_option maxRecDepth 100000
theorem bd24z : aBuilt Try.prog 24 [] = some [.int .i64 0, .slice none 0 0 0 1 false] := by kernel_rfl
theorem bd92n (n : Int) : aBuilt Try.prog 92 [(0, .int .i64 n)] = some [.int .i64 n, .slice none 0 0 0 1 false] := by kernel_rfl
theorem Any_bad (n k : Int) (hb : ¬ (1 ≤ n ∧ n ≤ 6 ∧ 0 ≤ k ∧ k ≤ n)) (H : AH) (Q : AV → AH → Prop) (h : Q (.tuple [cA 0 nilS, .int .i64 1]) H) : AC Try.prog 41 [.int .i64 n, .int .i64 k] H Q := by
  refine AC.quiet (belB_ce _ _ _) (fun Q h => ?_) Q h
  refine L_body 32 Try.func41 rfl rfl ?_
  obtain ⟨I0, hI0, hz0⟩ := zeroT_some zt24
  refine L_reg [0, 3, 4] (fun K hK => ?_)
  simp [AV.isU, acells, hI0, hz0]
  apply hK; clear hK K
  have h1 : (H ++ [AObj.row [.int .i64 k] 0 0 false, AObj.row [.int .i64 0, nilS] 0 0 false])[H.length]? = some (.row [.int .i64 k] 0 0 false) := by simp
  have h2 : (H ++ [AObj.row [.int .i64 k] 0 0 false, AObj.row [.int .i64 0, nilS] 0 0 false])[H.length + 1]? = some (.row [.int .i64 0, nilS] 0 0 false) := by simp
  have hE : Ext H (H ++ [AObj.row [.int .i64 k] 0 0 false, AObj.row [.int .i64 0, nilS] 0 0 false]) := .push _ _
  generalize H ++ [AObj.row [.int .i64 k] 0 0 false, AObj.row [.int .i64 0, nilS] 0 0 false] = H1 at h1 h2 hE ⊢
  have fk : ld H1 H.length 0 0 = some (.int .i64 k) := by rw [ld_row h1]; rfl
  refine L_reg [0, 3, 4, 22] (fun K hK => ?_)
  suffices hk : K [(0, .int .i64 n), (3, .ptr H.length 0 0), (4, .ptr (H.length + 1) 0 0), (22, .bool true)] H1 by
    by_cases e1 : n < 1
    · simp [e1, pickV]; simpa using hk
    · by_cases e2 : 6 < n
      · simp [e1, e2, pickV]; simpa using hk
      · by_cases e3 : k < 0
        · simp [e1, e2, e3, fk, pickV]; simpa using hk
        · have e4 : n < k := by omega
          simp [e1, e2, e3, e4, fk, pickV]; simpa using hk
  apply hK; clear hK K
  refine L_true rfl ?_
  have hst2 := st2 (t := 24) ag24 (n := 0) (s := nilS) h2 (by intro h; cases h) rfl
  refine L_reg [4, 5] (fun K hK => ?_)
  simp [bd24z, hst2]
  apply hK; clear hK K
  refine L_ret ⟨.inr rfl, _, res_cell_tmp rfl ?_ rfl, h _ (hE.set _ (by omega))⟩
  simp [ldn_c (s := nilS) (get_set h2) rfl, cA]
theorem Any_ok {n k : Nat} (hn1 : 1 ≤ n) (hn6 : n ≤ 6) (hkn : k ≤ n) (H : AH) (Q : AV → AH → Prop) (h : ∀ v H', OwnF H.length H' v ((il (sizeS n k)).map (.int .i64)) → Ext H H' → Q (.tuple [cA n v, .int .i64 0]) H') : AC Try.prog 41 [.int .i64 n, .int .i64 k] H Q := by
  refine L_body 32 Try.func41 rfl rfl ?_
  obtain ⟨I0, hI0, hz0⟩ := zeroT_some zt24
  obtain ⟨I, hI, hz⟩ := zeroT_some zt92
  refine L_reg [0, 3, 4] (fun K hK => ?_)
  simp [AV.isU, acells, hI0, hz0]
  apply hK; clear hK K
  have h1 : (H ++ [AObj.row [.int .i64 k] 0 0 false, AObj.row [.int .i64 0, nilS] 0 0 false])[H.length]? = some (.row [.int .i64 k] 0 0 false) := by simp
  have h2 : (H ++ [AObj.row [.int .i64 k] 0 0 false, AObj.row [.int .i64 0, nilS] 0 0 false])[H.length + 1]? = some (.row [.int .i64 0, nilS] 0 0 false) := by simp
  have hE : Ext H (H ++ [AObj.row [.int .i64 k] 0 0 false, AObj.row [.int .i64 0, nilS] 0 0 false]) := .push _ _
  generalize H ++ [AObj.row [.int .i64 k] 0 0 false, AObj.row [.int .i64 0, nilS] 0 0 false] = H1 at h1 h2 hE ⊢
  have fk : ld H1 H.length 0 0 = some (.int .i64 k) := by rw [ld_row h1]; rfl
  have e1 : ¬ (n : Int) < 1 := by omega
  have e2 : ¬ 6 < (n : Int) := by omega
  have e3 : ¬ (k : Int) < 0 := by omega
  have e4 : ¬ (n : Int) < k := by omega
  refine L_reg [0, 3, 4, 22] (fun K hK => ?_)
  suffices hk : K [(0, .int .i64 n), (3, .ptr H.length 0 0), (4, .ptr (H.length + 1) 0 0), (22, .bool false)] H1 by
    simp [e1, e2, e3, e4, fk, pickV]
    simpa [hkn, hn1, hn6] using hk
  apply hK; clear hK K
  refine L_false rfl ?_
  have hst := st2 (t := 92) ag92 (n := n) (s := nilS) (k := 0) (n' := 0) (s' := nilS) (p := H1.length) (H := H1 ++ [AObj.row [.int .i64 0, nilS] 0 0 false]) (by simp) (by intro h; cases h) rfl
  refine L_reg [0, 3, 4, 6] (fun K hK => ?_)
  simp [bd92n, hI, hz, hst]
  apply hK; clear hK K
  have h4 : (H1 ++ [AObj.row [.int .i64 n, nilS] 0 0 false])[H1.length]? = some (.row [.int .i64 n, nilS] 0 0 false) := by simp
  have hl2 := (List.getElem?_eq_some_iff.1 h2).1
  have h3 : (H1 ++ [AObj.row [.int .i64 n, nilS] 0 0 false])[H.length]? = some (.row [.int .i64 k] 0 0 false) := by
    rw [List.getElem?_append_left (by omega)]; exact h1
  have h5 : (H1 ++ [AObj.row [.int .i64 n, nilS] 0 0 false])[H.length + 1]? = some (.row [.int .i64 0, nilS] 0 0 false) := by
    rw [List.getElem?_append_left (by omega)]; exact h2
  have hE3 : Ext H (H1 ++ [AObj.row [.int .i64 n, nilS] 0 0 false]) := hE.trans (.push _ _)
  generalize H1 ++ [AObj.row [.int .i64 n, nilS] 0 0 false] = H3 at h4 h3 h5 hE3 ⊢
  refine L_reg [0, 4, 6, 7] (fun K hK => ?_)
  simp
  apply hK; clear hK K
  have a4 := ldn_c (s := nilS) h4 rfl
  have h64 := pw64 hn6
  refine L_reg [4, 5] (fun K hK => ?_)
  simp [okFn_low, a4]
  refine smallest_ac hn6 80 [] [.ptr H.length 0 0] (anyG k) nilS (by kernel_rfl) _ rfl (fun g hg H' hE' Q hQ => enough_q (by omega) _ (by rw [hE'.2 _ (List.getElem?_eq_some_iff.1 h3).1]; exact h3) Q hQ) _ (fun v H4 ho hE4 => ?_)
  have ho := ho.2
  rw [(any_is hn1 hn6 hkn).1] at ho
  obtain ⟨m0, m1, m2⟩ := sl_known (ownF_sl ho)
  have hbd := bd24 n (ownF_sl ho)
  have h5' : H4[H.length + 1]? = some (.row [.int .i64 0, nilS] 0 0 false) := by rw [hE4.2 _ (List.getElem?_eq_some_iff.1 h5).1]; exact h5
  have hst2 := st2 (t := 24) ag24 (n := n) (s := v) h5' (by intro h; cases h) m1
  simp [hbd, hst2]
  have hl3 := (List.getElem?_eq_some_iff.1 h5).1
  apply hK; clear hK K
  refine L_ret ⟨.inr rfl, _, res_cell_tmp rfl ?_ rfl, h v _ ((ownF_set ho (show H.length + 1 < H3.length by omega) _).mono hE3.1) ((hE3.trans hE4).set _ (by omega))⟩
  simp [ldn_c (get_set h5') m0, cA]
end Go.Proofs.Ytcidcihpkdoejaa.Bo
