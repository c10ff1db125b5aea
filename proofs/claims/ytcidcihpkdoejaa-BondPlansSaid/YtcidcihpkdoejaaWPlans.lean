/- Plans are as the reference says: the walk. -/
import Derived.Test.YtcidcihpkdoejaaUni
namespace Go.Proofs.Ytcidcihpkdoejaa.Bo
open Go Go.Proofs.Ytcidcihpkdoejaa Go.Proofs.Ytcidcihpkdoejaa.AX
set_option maxRecDepth 100000

set_option maxHeartbeats 4000000 in
theorem law4_ac (n : Int) (l : List Int) (s : AV) (g : Int) (H : AH) (hs : Ls H s l) : AC Try.prog 4 [cA n s, .int .i64 g] H fun v _ => v = .bool true := by
  refine L_body 112 Try.func4 rfl rfl ?_
  obtain ⟨I, hI, hz⟩ := zeroT_some zt41
  have hk := ls_known hs
  refine L_reg [1, 2] (fun K hK => ?_)
  simp [cA, AV.isU, acells]
  apply hK; clear hK K
  have g0 : (H ++ [AObj.row [.int .i64 n, s] 0 0 false])[H.length]? = some (.row [.int .i64 n, s] 0 0 false) := by simp
  have hs := hs.ext (.push H [AObj.row [.int .i64 n, s] 0 0 false])
  generalize H ++ [AObj.row [.int .i64 n, s] 0 0 false] = H1 at g0 hs ⊢
  generalize H.length = p0 at g0 ⊢
  have c1 := ld_c1 g0 hk
  refine L_reg [1, 2, 18] (fun K hK => ?_)
  simp [okFn_low, c1]
  refine large_q s l _ hs _ ?_
  simp
  apply hK; clear hK K
  by_cases hL : 200 < l.length
  · refine L_true (by simpa using hL) ?_
    refine L_reg [4] (fun K hK => ?_)
    simp [okFn_low]
    refine works_ac _ _ ?_
    simp
    apply hK; clear hK K
    exact L_ret ⟨.inr rfl, _, rfl, rfl⟩
  refine L_false (by simpa using hL) ?_
  have hlen : l.length ≤ 1000000 := by omega
  obtain ⟨b1, e1, A1, B1⟩ := Opens_u n l s hlen g
  obtain ⟨L2, e2, z2, A2, B2⟩ := Lacks_u n l s hlen g
  obtain ⟨L3, e3, z3, A3, B3⟩ := Smallest_u n l s hlen
  obtain ⟨L4, e4, z4, A4, B4⟩ := Keys_u n l s hlen
  have a0 := ldn_c g0 hk
  refine L_reg [1, 2, 5] (fun K hK => ?_)
  have hstg5 := st2 (t := 41) ag41 (n := n) (s := s) (k := 0) (n' := 0) (s' := nilS) (p := H1.length) (H := H1 ++ [AObj.row [.int .i64 0, nilS] 0 0 false]) (by simp) (by intro h; cases h) (ls_one hs)
  simp [hI, hz, hstg5, a0]
  apply hK; clear hK K
  have g5 : (H1 ++ [AObj.row [.int .i64 n, s] 0 0 false])[H1.length]? = some (.row [.int .i64 n, s] 0 0 false) := by simp
  have hPg5 : Ext H1 (H1 ++ [AObj.row [.int .i64 n, s] 0 0 false]) := .push _ _
  have hs := hs.ext hPg5
  have g0 : (H1 ++ [AObj.row [.int .i64 n, s] 0 0 false])[p0]? = some (.row [.int .i64 n, s] 0 0 false) := by rw [hPg5.2 _ (List.getElem?_eq_some_iff.1 g0).1]; exact g0
  clear hstg5
  generalize H1 ++ [AObj.row [.int .i64 n, s] 0 0 false] = G1 at *
  generalize H1.length = pg5 at *
  have a0 := ldn_c g0 hk
  have a5 := ldn_c g5 hk
  refine L_reg [1, 2, 5, 6, 7] (fun K hK => ?_)
  simp [okFn_low, a0]
  refine A1 _ hs _ ?_
  simp
  apply hK; clear hK K
  refine L_reg [1, 2, 5, 6, 7, 8, 9] (fun K hK => ?_)
  simp [okFn_low, a5]
  refine B1 _ hs _ ?_
  simp
  apply hK; clear hK K
  refine L_reg [1, 2, 5, 6, 7, 8, 9, 10, 11] (fun K hK => ?_)
  simp [okFn_low, a0]
  refine A2 _ hs _ (fun x G2 lx hEG2 => ?_)
  simp
  apply hK; clear hK K
  have hs := hs.ext hEG2
  have g0 : G2[p0]? = some (.row [.int .i64 n, s] 0 0 false) := by rw [hEG2.2 _ (List.getElem?_eq_some_iff.1 g0).1]; exact g0
  have g5 : G2[pg5]? = some (.row [.int .i64 n, s] 0 0 false) := by rw [hEG2.2 _ (List.getElem?_eq_some_iff.1 g5).1]; exact g5
  have a0 := ldn_c g0 hk
  have a5 := ldn_c g5 hk
  refine L_reg [2, 5, 6, 7, 8, 9, 10, 11, 12, 13] (fun K hK => ?_)
  simp [okFn_low, a5]
  refine B2 _ hs _ (fun y G3 ly hEG3 => ?_)
  simp
  apply hK; clear hK K
  have hs := hs.ext hEG3
  have lx := lx.ext hEG3
  have g0 : G3[p0]? = some (.row [.int .i64 n, s] 0 0 false) := by rw [hEG3.2 _ (List.getElem?_eq_some_iff.1 g0).1]; exact g0
  have g5 : G3[pg5]? = some (.row [.int .i64 n, s] 0 0 false) := by rw [hEG3.2 _ (List.getElem?_eq_some_iff.1 g5).1]; exact g5
  have a0 := ldn_c g0 hk
  have a5 := ldn_c g5 hk
  refine L_reg [2, 5, 63] (fun K hK => ?_)
  simp [okFn_low, pickV, b_neqB Try.underlying4]
  refine sameI_q x y L2 z2 _ lx ly _ ?_
  simp [pickV]
  apply hK; clear hK K
  refine L_false rfl ?_
  refine L_reg [2, 5, 10, 11] (fun K hK => ?_)
  simp [okFn_low, a0]
  refine A3 _ hs _ (fun x2 G4 lx2 hEG4 => ?_)
  simp
  apply hK; clear hK K
  have hs := hs.ext hEG4
  have lx := lx.ext hEG4
  have ly := ly.ext hEG4
  have g0 : G4[p0]? = some (.row [.int .i64 n, s] 0 0 false) := by rw [hEG4.2 _ (List.getElem?_eq_some_iff.1 g0).1]; exact g0
  have g5 : G4[pg5]? = some (.row [.int .i64 n, s] 0 0 false) := by rw [hEG4.2 _ (List.getElem?_eq_some_iff.1 g5).1]; exact g5
  have a0 := ldn_c g0 hk
  have a5 := ldn_c g5 hk
  refine L_reg [2, 5, 10, 11, 12, 13] (fun K hK => ?_)
  simp [okFn_low, a5]
  refine B3 _ hs _ (fun y2 G5 ly2 hEG5 => ?_)
  simp
  apply hK; clear hK K
  have hs := hs.ext hEG5
  have lx := lx.ext hEG5
  have ly := ly.ext hEG5
  have lx2 := lx2.ext hEG5
  have g0 : G5[p0]? = some (.row [.int .i64 n, s] 0 0 false) := by rw [hEG5.2 _ (List.getElem?_eq_some_iff.1 g0).1]; exact g0
  have g5 : G5[pg5]? = some (.row [.int .i64 n, s] 0 0 false) := by rw [hEG5.2 _ (List.getElem?_eq_some_iff.1 g5).1]; exact g5
  have a0 := ldn_c g0 hk
  have a5 := ldn_c g5 hk
  refine L_reg [2, 5, 7, 10, 11, 12, 13, 14] (fun K hK => ?_)
  simp [okFn_low, a0]
  refine A4 _ hs _ (fun z G6 lz hEG6 => ?_)
  simp
  apply hK; clear hK K
  have hs := hs.ext hEG6
  have lx := lx.ext hEG6
  have ly := ly.ext hEG6
  have lx2 := lx2.ext hEG6
  have ly2 := ly2.ext hEG6
  have g0 : G6[p0]? = some (.row [.int .i64 n, s] 0 0 false) := by rw [hEG6.2 _ (List.getElem?_eq_some_iff.1 g0).1]; exact g0
  have g5 : G6[pg5]? = some (.row [.int .i64 n, s] 0 0 false) := by rw [hEG6.2 _ (List.getElem?_eq_some_iff.1 g5).1]; exact g5
  have a0 := ldn_c g0 hk
  have a5 := ldn_c g5 hk
  refine L_reg [2, 5, 7, 9, 10, 11, 12, 13, 14, 15] (fun K hK => ?_)
  simp [okFn_low, a5]
  refine B4 _ hs _ (fun w G7 lw hEG7 => ?_)
  simp
  apply hK; clear hK K
  have hs := hs.ext hEG7
  have lx := lx.ext hEG7
  have ly := ly.ext hEG7
  have lx2 := lx2.ext hEG7
  have ly2 := ly2.ext hEG7
  have lz := lz.ext hEG7
  have g0 : G7[p0]? = some (.row [.int .i64 n, s] 0 0 false) := by rw [hEG7.2 _ (List.getElem?_eq_some_iff.1 g0).1]; exact g0
  have g5 : G7[pg5]? = some (.row [.int .i64 n, s] 0 0 false) := by rw [hEG7.2 _ (List.getElem?_eq_some_iff.1 g5).1]; exact g5
  have a0 := ldn_c g0 hk
  have a5 := ldn_c g5 hk
  refine L_regQ mixed [4] (by kernel_rfl) (fun K hK => ?_)
  simp [okFn_low]
  refine exQ_mk (fun Q hQ => sameI_q x2 y2 L3 z3 _ lx2 ly2 Q hQ) ?_
  simp [okFn_low, pickV]
  refine exQ_mk (fun Q hQ => sameI_q z w L4 z4 _ lz lw Q hQ) ?_
  simp [okFn_low, pickV, a0]
  refine exQ_mk (fun Q hQ => CheckPlan_q n l s hlen _ hs Q hQ) ?_
  simp [okFn_low, a5]
  refine exQ_mk (fun Q hQ => CheckP_q n l s hlen _ hs Q hQ) ?_
  simp [okFn_low, pickV]
  refine exQ_mk (fun Q hQ => works_ac _ Q hQ) ?_
  simp [pickV]
  apply hK; clear hK K
  exact L_ret ⟨.inr rfl, _, rfl, rfl⟩
end Go.Proofs.Ytcidcihpkdoejaa.Bo
