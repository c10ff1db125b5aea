/- The law of proofs that wishes cannot all be met. -/
import Derived.Test.YtojblooaiojmcaaOver
import Derived.Test.YtojblooaiojmcaaWorks
namespace Go.Proofs.Ytojblooaiojmcaa
open Go Go.Proofs.Ytojblooaiojmcaa.AX

theorem dockProves_ac (n k : Int) (v : AV) (l : List Int) (H : AH) (hv : Ls H v l) : AC Try.prog 4 [.int .i64 n, v, .int .i64 k] H fun u _ => u = .bool true := by
  have hv' := hv
  obtain ⟨r, off, ver, sz, full, rfl, -⟩ := hv'
  refine L_body 49 Try.func4 rfl rfl ?_
  refine L_reg [0, 1, 2, 6] (fun K hK => ?_)
  simp
  apply hK; clear hK K
  refine L_reg [0, 1, 2, 6, 13] (fun K hK => ?_)
  simp
  apply hK; clear hK K
  by_cases hl : 60 < l.length
  · refine L_true (by simp; omega) ?_
    refine L_reg [6] (fun K hK => ?_)
    simp [okFn_low]
    refine works_ac _ _ ?_
    simp
    apply hK; clear hK K
    exact L_ret ⟨.inr rfl, _, rfl, rfl⟩
  · refine L_false (by simp; omega) ?_
    refine L_reg [0, 1, 2, 6, 7, 8] (fun K hK => ?_)
    simp [okFn_low]
    refine Against_ac _ _ l _ _ (by omega) hv ?_
    simp
    apply hK; clear hK K
    refine L_reg [0, 1, 2, 6, 7, 8, 9, 10] (fun K hK => ?_)
    simp [okFn_low]
    refine refAgainst_ac _ _ l _ _ (by omega) hv ?_
    simp
    apply hK; clear hK K
    generalize againstS n l = p
    obtain ⟨x, y⟩ := p
    refine L_reg [6] (fun K hK => ?_)
    simp [okFn_low]
    refine Proves_ac _ _ _ l _ _ (by omega) hv ?_
    simp [okFn_low]
    refine refProvesE_ac _ _ _ l _ _ (by omega) hv ?_
    simp [okFn_low]
    refine works_ac _ _ ?_
    simp
    apply hK; clear hK K
    exact L_ret ⟨.inr rfl, _, rfl, rfl⟩
end Go.Proofs.Ytojblooaiojmcaa
