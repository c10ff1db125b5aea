/- The law's own questions; the groups that are edges. -/
import Derived.Test.YtcidcihpkdoejaaClo
import Derived.Test.YtcidcihpkdoejaaThree
import Derived.Test.YtcidcihpkdoejaaRef2
namespace Go.Proofs.Ytcidcihpkdoejaa.Bo
open Go Go.Proofs.Ytcidcihpkdoejaa Go.Proofs.Ytcidcihpkdoejaa.AX
set_option maxRecDepth 100000
theorem inW_q {x g c k : Nat} (hx : x < 64) (hg : g < 64) (H : AH) (hc : H[c]? = some (.row [.int .i64 g] 0 k false)) (Q : AV → AH → Prop) (h : Q (.bool (sub x g)) H) : AC Try.prog 82 [.int .i64 x, .ptr c 0 0] H Q := by
  refine L_body 9 Try.func82 rfl rfl ?_
  have fx : ld H c 0 0 = some (.int .i64 g) := by rw [ld_row hc]; rfl
  have hand : ∀ tt ll, binV Try.prog .and tt ll (.int .i64 (x : Int)) (.int .i64 (g : Int)) = some (.int .i64 ((x &&& g : Nat) : Int)) := fun _ _ => n_and x g hx hg
  have e : (((x &&& g : Nat) : Int) == (x : Int)) = sub x g := by
    unfold sub; rw [Bool.eq_iff_iff, beq_iff_eq, beq_iff_eq]; omega
  refine L_reg [0, 1] (fun K hK => ?_)
  simp
  apply hK; clear hK K
  refine L_reg [3] (fun K hK => ?_)
  simp [fx, hand, e]
  apply hK; clear hK K
  exact L_ret ⟨.inr rfl, _, rfl, h⟩
theorem inM_q {x g c k : Nat} (hx : x < 64) (hg : g < 64) (H : AH) (hc : H[c]? = some (.row [.int .i64 g] 0 k false)) (Q : AV → AH → Prop) (h : Q (.bool (x &&& g == 0)) H) : AC Try.prog 83 [.int .i64 x, .ptr c 0 0] H Q := by
  refine L_body 8 Try.func83 rfl rfl ?_
  have fx : ld H c 0 0 = some (.int .i64 g) := by rw [ld_row hc]; rfl
  have hand : ∀ tt ll, binV Try.prog .and tt ll (.int .i64 (x : Int)) (.int .i64 (g : Int)) = some (.int .i64 ((x &&& g : Nat) : Int)) := fun _ _ => n_and x g hx hg
  have e : (((x &&& g : Nat) : Int) == 0) = (x &&& g == 0) := by
    rw [Bool.eq_iff_iff, beq_iff_eq, beq_iff_eq]; omega
  refine L_reg [0, 1] (fun K hK => ?_)
  simp
  apply hK; clear hK K
  refine L_reg [3] (fun K hK => ?_)
  simp [fx, hand, e]
  apply hK; clear hK K
  exact L_ret ⟨.inr rfl, _, rfl, h⟩
theorem withinL_q (l : List Nat) (hl : okG 64 l) (hlen : l.length ≤ 1000000) (u : AV) (g : Nat) (hg : g < 64) (H : AH) (hu : Ls H u (il l)) (Q : AV → AH → Prop) (h : Q (.bool (within l g)) H) : AC Try.prog 45 [u, .int .i64 g] H Q := by
  refine AC.quiet (belB_bool _ _ _) (fun Q h => ?_) Q h
  refine L_body 8 Try.func45 rfl rfl ?_
  refine L_reg [0, 3] (fun K hK => ?_)
  simp [AV.isU, acells]
  apply hK; clear hK K
  have h1 : (H ++ [AObj.row [.int .i64 g] 0 0 false])[H.length]? = some (.row [.int .i64 g] 0 0 false) := by simp
  have hE : Ext H (H ++ [AObj.row [.int .i64 g] 0 0 false]) := .push _ _
  generalize H ++ [AObj.row [.int .i64 g] 0 0 false] = H1 at h1 hE ⊢
  have hm : (l.any fun o => sub o g) = within l g := rfl
  refine L_reg [4] (fun K hK => ?_)
  simp [okFn_low]
  refine containsFunc_q 82 [] [.ptr H.length 0 0] (fun o => sub o g) (by kernel_rfl) l u hlen _ (hu.ext hE) (fun o ho Q hQ => inW_q (hl o ho) hg _ h1 Q hQ) _ ?_
  rw [hm]
  generalize within l g = b at h ⊢
  simp
  apply hK; clear hK K
  exact L_ret ⟨.inr rfl, _, rfl, h _ hE⟩
theorem meetsL_q (l : List Nat) (hl : okG 64 l) (hlen : l.length ≤ 1000000) (u : AV) (g : Nat) (hg : g < 64) (H : AH) (hu : Ls H u (il l)) (Q : AV → AH → Prop) (h : Q (.bool (meets l g)) H) : AC Try.prog 46 [u, .int .i64 g] H Q := by
  refine AC.quiet (belB_bool _ _ _) (fun Q h => ?_) Q h
  refine L_body 9 Try.func46 rfl rfl ?_
  refine L_reg [0, 3] (fun K hK => ?_)
  simp [AV.isU, acells]
  apply hK; clear hK K
  have h1 : (H ++ [AObj.row [.int .i64 g] 0 0 false])[H.length]? = some (.row [.int .i64 g] 0 0 false) := by simp
  have hE : Ext H (H ++ [AObj.row [.int .i64 g] 0 0 false]) := .push _ _
  generalize H ++ [AObj.row [.int .i64 g] 0 0 false] = H1 at h1 hE ⊢
  have hm : (!(l.any fun o => o &&& g == 0)) = meets l g := by unfold meets; rw [List.not_any_eq_all_not]
  obtain ⟨b, hb⟩ : ∃ b, (l.any fun o => o &&& g == 0) = b := ⟨_, rfl⟩
  rw [hb] at hm
  refine L_reg [4] (fun K hK => ?_)
  simp [okFn_low]
  refine containsFunc_q 83 [] [.ptr H.length 0 0] (fun o => o &&& g == 0) (by kernel_rfl) l u hlen _ (hu.ext hE) (fun o ho Q hQ => inM_q (hl o ho) hg _ h1 Q hQ) _ ?_
  rw [hb]
  simp [hm]
  apply hK; clear hK K
  exact L_ret ⟨.inr rfl, _, rfl, h _ hE⟩
end Go.Proofs.Ytcidcihpkdoejaa.Bo
