/- Counts are checked, and can be, or have a number that stands against them, as the reference says: the walk. -/
import Derived.Test.YtbimapbcpmeooaaWorks
namespace Go.Proofs.Ytbimapbcpmeooaa.Cl
open Go Go.Proofs.Ytbimapbcpmeooaa Go.Proofs.Ytbimapbcpmeooaa.AX
set_option maxRecDepth 100000
set_option linter.unusedVariables false
@[simp] theorem eq_bool (l b c : Bool) : binV Try.prog .eql 4 l (.bool b) (.bool c) = some (.bool (b == c)) := by
  cases l <;> cases b <;> cases c <;> kernel_rfl
@[simp] theorem neq_bool (l b c : Bool) : binV Try.prog .neq 4 l (.bool b) (.bool c) = some (.bool (b != c)) := by
  cases l <;> cases b <;> cases c <;> kernel_rfl
def canX (l : List Int) : Bool := if chkC l = 0 then canB (l.map Int.toNat) else false
def whyX (l : List Int) : Int := if chkC l = 0 then (whyA (l.map Int.toNat)).1 else 0
def whyE (l : List Int) : Int := if chkC l = 0 then (whyA (l.map Int.toNat)).2 else chkC l
theorem Can_t (F : Nat) (hF : F = 15 ∨ F = 16) (l : List Int) (v : AV) (hlen : l.length ≤ 1000000) (H : AH) (hv : Ls H v l) (Q : AV → AH → Prop) (h : Q (.tuple [.bool (canX l), .int .i64 (chkC l)]) H) : AC Try.prog F [v] H Q := by
  have h1 : chkC l ≠ 0 → Q (.tuple [.bool false, .int .i64 (chkC l)]) H := fun hn => by unfold canX at h; rw [if_neg hn] at h; exact h
  have h2 : ∀ c, l = il c → Okc c → Q (.tuple [.bool (canB c), .int .i64 0]) H := fun c e ho => by
    subst e
    unfold canX at h
    rw [if_pos (okc_chk ho), okc_chk ho, il_nat] at h
    exact h
  rcases hF with rfl | rfl
  · exact Can_q l v hlen H hv Q h1 h2
  · exact CanR_q l v hlen H hv Q h1 h2
theorem Why_t (F : Nat) (hF : F = 17 ∨ F = 18) (l : List Int) (v : AV) (hlen : l.length ≤ 1000000) (H : AH) (hv : Ls H v l) (Q : AV → AH → Prop) (h : Q (.tuple [.int .i64 (whyX l), .int .i64 (whyE l)]) H) : AC Try.prog F [v] H Q := by
  have h1 : chkC l ≠ 0 → Q (.tuple [.int .i64 0, .int .i64 (chkC l)]) H := fun hn => by unfold whyX whyE at h; rw [if_neg hn, if_neg hn] at h; exact h
  have h2 : ∀ c, l = il c → Okc c → Q (.tuple [.int .i64 (whyA c).1, .int .i64 (whyA c).2]) H := fun c e ho => by
    subst e
    unfold whyX whyE at h
    rw [if_pos (okc_chk ho), if_pos (okc_chk ho), il_nat] at h
    exact h
  rcases hF with rfl | rfl
  · exact Why_q l v hlen H hv Q h1 h2
  · exact WhyR_q l v hlen H hv Q h1 h2
set_option maxHeartbeats 2000000 in
theorem can_ac (l : List Int) (v : AV) (k : Int) (H : AH) (hv : Ls H v l) : AC Try.prog 3 [v, .int .i64 k] H fun r _ => r = .bool true := by
  have hvl := ls_len hv
  refine L_body 74 Try.func3 rfl rfl ?_
  refine L_reg [0, 1] (fun K hK => ?_)
  simp
  apply hK; clear hK K
  refine L_reg [0, 1, 15] (fun K hK => ?_)
  simp [hvl]
  apply hK; clear hK K
  refine L_dec (60 < l.length) (by simp; omega) (fun c => ?_) (fun c => ?_)
  · refine L_reg [4] (fun K hK => ?_)
    simp [okFn_low]
    refine works_ac _ _ ?_
    simp
    apply hK; clear hK K
    exact L_ret ⟨.inr rfl, _, rfl, rfl⟩
  refine L_reg [0, 1, 5, 6] (fun K hK => ?_)
  simp [okFn_low]
  refine Can_t 15 (.inl rfl) l v (by omega) _ hv _ ?_
  simp
  apply hK; clear hK K
  refine L_reg [0, 1, 5, 6, 7, 8] (fun K hK => ?_)
  simp [okFn_low]
  refine Can_t 16 (.inr rfl) l v (by omega) _ hv _ ?_
  simp
  apply hK; clear hK K
  refine L_reg [0, 1, 5, 6, 7, 8, 9, 10] (fun K hK => ?_)
  simp [okFn_low]
  refine Why_t 17 (.inl rfl) l v (by omega) _ hv _ ?_
  simp
  apply hK; clear hK K
  refine L_reg [0, 1, 5, 6, 7, 8, 9, 10, 11, 12] (fun K hK => ?_)
  simp [okFn_low]
  refine Why_t 18 (.inr rfl) l v (by omega) _ hv _ ?_
  simp
  apply hK; clear hK K
  refine L_reg [4] (fun K hK => ?_)
  simp [okFn_low, pickV]
  refine Proves_q l k v (by omega) _ hv _ ?_
  simp [okFn_low]
  refine ProvesR_q l k v (by omega) _ hv _ ?_
  simp [okFn_low, pickV]
  refine Check_q l v (by omega) _ hv _ ?_
  simp [okFn_low]
  refine CheckR_q l v (by omega) _ hv _ ?_
  simp [okFn_low, pickV]
  refine works_ac _ _ ?_
  simp [pickV]
  apply hK; clear hK K
  exact L_ret ⟨.inr rfl, _, rfl, rfl⟩
end Go.Proofs.Ytbimapbcpmeooaa.Cl
