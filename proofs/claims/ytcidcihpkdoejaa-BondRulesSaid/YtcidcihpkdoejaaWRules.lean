/- Rules and plans are as the reference says: the walk. -/
import Derived.Test.YtcidcihpkdoejaaUni
namespace Go.Proofs.Ytcidcihpkdoejaa.Bo
open Go Go.Proofs.Ytcidcihpkdoejaa Go.Proofs.Ytcidcihpkdoejaa.AX
set_option maxRecDepth 100000

set_option maxHeartbeats 4000000 in
theorem law3_ac (n : Int) (l : List Int) (s : AV) (g : Int) (H : AH) (hs : Ls H s l) : AC Try.prog 3 [cA n s, .int .i64 g] H fun v _ => v = .bool true := by
  refine L_body 93 Try.func3 rfl rfl ?_
  obtain ⟨I, hI, hz⟩ := zeroT_some zt27
  have hk := ls_known hs
  refine L_reg [1, 2] (fun K hK => ?_)
  simp [cA, AV.isU, acells]
  apply hK; clear hK K
  have g0 : (H ++ [AObj.row [.int .i64 n, s] 0 0 false])[H.length]? = some (.row [.int .i64 n, s] 0 0 false) := by simp
  have hs := hs.ext (.push H [AObj.row [.int .i64 n, s] 0 0 false])
  generalize H ++ [AObj.row [.int .i64 n, s] 0 0 false] = H1 at g0 hs ⊢
  generalize H.length = p0 at g0 ⊢
  have c1 := ld_c1 g0 hk
  refine L_reg [1, 2, 20] (fun K hK => ?_)
  simp [okFn_low, c1]
  refine large_q s l _ hs _ ?_
  simp
  apply hK; clear hK K
  by_cases hL : 200 < l.length
  · refine L_true (by simpa using hL) ?_
    refine L_reg [4] (fun K hK => ?_)
    simp [okFn_low]
    refine works_ac _ _ ?_
    simp
    apply hK; clear hK K
    exact L_ret ⟨.inr rfl, _, rfl, rfl⟩
  refine L_false (by simpa using hL) ?_
  have hlen : l.length ≤ 1000000 := by omega
  obtain ⟨b1, e1, A1, B1⟩ := May_u n l s hlen g
  obtain ⟨L2, e2, z2, A2, B2⟩ := Least_u n l s hlen
  obtain ⟨L3, e3, z3, A3, B3⟩ := Barred_u n l s hlen
  have a0 := ldn_c g0 hk
  refine L_reg [1, 2, 5] (fun K hK => ?_)
  have hstg5 := st2 (t := 27) ag27 (n := n) (s := s) (k := 0) (n' := 0) (s' := nilS) (p := H1.length) (H := H1 ++ [AObj.row [.int .i64 0, nilS] 0 0 false]) (by simp) (by intro h; cases h) (ls_one hs)
  simp [hI, hz, hstg5, a0]
  apply hK; clear hK K
  have g5 : (H1 ++ [AObj.row [.int .i64 n, s] 0 0 false])[H1.length]? = some (.row [.int .i64 n, s] 0 0 false) := by simp
  have hPg5 : Ext H1 (H1 ++ [AObj.row [.int .i64 n, s] 0 0 false]) := .push _ _
  have hs := hs.ext hPg5
  have g0 : (H1 ++ [AObj.row [.int .i64 n, s] 0 0 false])[p0]? = some (.row [.int .i64 n, s] 0 0 false) := by rw [hPg5.2 _ (List.getElem?_eq_some_iff.1 g0).1]; exact g0
  clear hstg5
  generalize H1 ++ [AObj.row [.int .i64 n, s] 0 0 false] = G1 at *
  generalize H1.length = pg5 at *
  have a0 := ldn_c g0 hk
  have a5 := ldn_c g5 hk
  refine L_reg [1, 2, 5, 6, 7] (fun K hK => ?_)
  simp [okFn_low, a0]
  refine A1 _ hs _ ?_
  simp
  apply hK; clear hK K
  refine L_reg [2, 5, 6, 7, 8, 9] (fun K hK => ?_)
  simp [okFn_low, a5]
  refine B1 _ hs _ ?_
  simp
  apply hK; clear hK K
  refine L_reg [2, 5, 6, 7, 8, 9, 10, 11] (fun K hK => ?_)
  simp [okFn_low, a0]
  refine A2 _ hs _ (fun x G2 lx hEG2 => ?_)
  simp
  apply hK; clear hK K
  have hs := hs.ext hEG2
  have g0 : G2[p0]? = some (.row [.int .i64 n, s] 0 0 false) := by rw [hEG2.2 _ (List.getElem?_eq_some_iff.1 g0).1]; exact g0
  have g5 : G2[pg5]? = some (.row [.int .i64 n, s] 0 0 false) := by rw [hEG2.2 _ (List.getElem?_eq_some_iff.1 g5).1]; exact g5
  have a0 := ldn_c g0 hk
  have a5 := ldn_c g5 hk
  refine L_reg [2, 5, 6, 7, 8, 9, 10, 11, 12, 13] (fun K hK => ?_)
  simp [okFn_low, a5]
  refine B2 _ hs _ (fun y G3 ly hEG3 => ?_)
  simp
  apply hK; clear hK K
  have hs := hs.ext hEG3
  have lx := lx.ext hEG3
  have g0 : G3[p0]? = some (.row [.int .i64 n, s] 0 0 false) := by rw [hEG3.2 _ (List.getElem?_eq_some_iff.1 g0).1]; exact g0
  have g5 : G3[pg5]? = some (.row [.int .i64 n, s] 0 0 false) := by rw [hEG3.2 _ (List.getElem?_eq_some_iff.1 g5).1]; exact g5
  have a0 := ldn_c g0 hk
  have a5 := ldn_c g5 hk
  refine L_reg [2, 5, 6, 7, 8, 9, 10, 11, 12, 13, 14, 15] (fun K hK => ?_)
  simp [okFn_low, a0]
  refine A3 _ hs _ (fun z G4 lz hEG4 => ?_)
  simp
  apply hK; clear hK K
  have hs := hs.ext hEG4
  have lx := lx.ext hEG4
  have ly := ly.ext hEG4
  have g0 : G4[p0]? = some (.row [.int .i64 n, s] 0 0 false) := by rw [hEG4.2 _ (List.getElem?_eq_some_iff.1 g0).1]; exact g0
  have g5 : G4[pg5]? = some (.row [.int .i64 n, s] 0 0 false) := by rw [hEG4.2 _ (List.getElem?_eq_some_iff.1 g5).1]; exact g5
  have a0 := ldn_c g0 hk
  have a5 := ldn_c g5 hk
  refine L_reg [2, 5, 6, 7, 8, 9, 10, 11, 12, 13, 14, 15, 16, 17] (fun K hK => ?_)
  simp [okFn_low, a5]
  refine B3 _ hs _ (fun w G5 lw hEG5 => ?_)
  simp
  apply hK; clear hK K
  have hs := hs.ext hEG5
  have lx := lx.ext hEG5
  have ly := ly.ext hEG5
  have lz := lz.ext hEG5
  have g0 : G5[p0]? = some (.row [.int .i64 n, s] 0 0 false) := by rw [hEG5.2 _ (List.getElem?_eq_some_iff.1 g0).1]; exact g0
  have g5 : G5[pg5]? = some (.row [.int .i64 n, s] 0 0 false) := by rw [hEG5.2 _ (List.getElem?_eq_some_iff.1 g5).1]; exact g5
  have a0 := ldn_c g0 hk
  have a5 := ldn_c g5 hk
  refine L_regQ mixed [4] (by kernel_rfl) (fun K hK => ?_)
  simp [okFn_low, pickV, b_eqlB Try.underlying4]
  refine exQ_mk (fun Q hQ => sameI_q x y L2 z2 _ lx ly Q hQ) ?_
  simp [okFn_low, pickV]
  refine exQ_mk (fun Q hQ => sameI_q z w L3 z3 _ lz lw Q hQ) ?_
  simp [okFn_low, pickV, a0]
  refine exQ_mk (fun Q hQ => Check_q n l s hlen _ hs Q hQ) ?_
  simp [okFn_low, a5]
  refine exQ_mk (fun Q hQ => CheckR_q n l s hlen _ hs Q hQ) ?_
  simp [okFn_low, pickV]
  refine exQ_mk (fun Q hQ => works_ac _ Q hQ) ?_
  simp [pickV]
  apply hK; clear hK K
  exact L_ret ⟨.inr rfl, _, rfl, rfl⟩
end Go.Proofs.Ytcidcihpkdoejaa.Bo
