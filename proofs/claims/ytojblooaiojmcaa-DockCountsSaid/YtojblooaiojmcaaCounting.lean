/- The walk of the law of counts. -/
import Derived.Test.YtojblooaiojmcaaRnum
import Derived.Test.YtojblooaiojmcaaWay
import Derived.Test.YtojblooaiojmcaaWorks
namespace Go.Proofs.Ytojblooaiojmcaa
open Go Go.Proofs.Ytojblooaiojmcaa.AX

theorem atL_len (n m num : Int) : (atL n m num).length ≤ 8 := by
  unfold atL
  split
  · simp
  · rename_i h
    rw [atS_len]
    have h0 : cartsE n m = 0 := by
      unfold atE at h
      by_cases h1 : cartsE n m = 0
      · exact h1
      · rw [if_pos h1] at h; exact absurd h1 h
    obtain ⟨a, b, -, rfl, -, ha8, hb⟩ := cartsE_ok h0
    simp; omega
set_option maxRecDepth 100000 in
theorem dockCounts_ac (n m num : Int) (v : AV) (l : List Int) (H : AH) (hv : Ls H v l) : AC Try.prog 5 [.int .i64 n, .int .i64 m, .int .i64 num, v] H fun u _ => u = .bool true := by
  obtain ⟨r, off, ver, sz, full, rfl, -⟩ := id hv
  refine L_body 94 Try.func5 rfl rfl ?_
  refine L_reg [0, 1, 2, 3] (fun K hK => ?_)
  simp
  apply hK; clear hK K
  refine L_reg [0, 1, 2, 3, 23] (fun K hK => ?_)
  simp
  apply hK; clear hK K
  by_cases hl : 60 < l.length
  case pos =>
    refine L_true (by simp; omega) ?_
    refine L_reg [8] (fun K hK => ?_)
    simp [okFn_low]
    refine works_ac _ _ ?_
    simp
    apply hK; clear hK K
    exact L_ret ⟨.inr rfl, _, rfl, rfl⟩
  refine L_false (by simp; omega) ?_
  refine L_reg [0, 1, 2, 3, 9, 10] (fun K hK => ?_)
  simp [okFn_low]
  refine Count_ac n m _ _ (fun H1 hE1 => ?_)
  simp
  apply hK; clear hK K
  refine L_reg [0, 1, 2, 3, 9, 10, 11, 12] (fun K hK => ?_)
  simp [okFn_low]
  refine rCount_ac n m _ _ ?_
  simp
  apply hK; clear hK K
  refine L_reg [0, 1, 2, 3, 9, 10, 11, 12, 13, 14] (fun K hK => ?_)
  simp [okFn_low]
  refine At_ac n m num _ _ (fun v2 H2 hv2 hE2 => ?_)
  simp
  apply hK; clear hK K
  refine L_reg [0, 3, 9, 10, 11, 12, 13, 14, 15, 16] (fun K hK => ?_)
  simp [okFn_low]
  refine rAt_ac n m num _ _ (fun v3 H3 hv3 hE3 => ?_)
  simp
  apply hK; clear hK K
  have hvA := ((hv.ext hE1).ext hE2).ext hE3
  refine L_reg [0, 3, 9, 10, 11, 12, 13, 14, 15, 16, 17, 18] (fun K hK => ?_)
  simp [okFn_low]
  refine Number_ac n _ l _ _ (by omega) hvA (fun H4 hE4 => ?_)
  simp
  apply hK; clear hK K
  refine L_reg [9, 10, 11, 12, 13, 14, 15, 16, 17, 18, 19, 20] (fun K hK => ?_)
  simp [okFn_low]
  refine rNumber_ac n _ l _ _ (by omega) (hvA.ext hE4) (fun H5 hE5 => ?_)
  simp
  apply hK; clear hK K
  have hs1 := ((hv2.ext hE3).ext hE4).ext hE5
  have hs2 := (hv3.ext hE4).ext hE5
  have hal := atL_len n m num
  generalize countS n m = x1
  generalize cartsE n m = x2
  generalize numV n l = x3
  generalize numE n l = x4
  generalize atE n m num = x5
  refine L_reg [8] (fun K hK => ?_)
  simp [okFn_low, pickV]
  refine same_ac _ _ ((atL n m num).map Int.ofNat) ((atL n m num).map Int.ofNat) _ _ (by simp; omega) hs1 hs2 ?_
  simp [okFn_low, pickV]
  refine works_ac _ _ ?_
  simp [pickV]
  apply hK; clear hK K
  exact L_ret ⟨.inr rfl, _, rfl, by simp⟩
end Go.Proofs.Ytojblooaiojmcaa
