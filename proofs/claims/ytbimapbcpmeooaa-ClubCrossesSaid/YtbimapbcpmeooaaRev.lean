/- A list is turned round. -/
import Derived.Test.YtbimapbcpmeooaaSeats
namespace Go.Proofs.Ytbimapbcpmeooaa
open Go Go.Proofs.Ytbimapbcpmeooaa Go.Proofs.Ytbimapbcpmeooaa.AX
set_option maxRecDepth 100000
theorem g_rev {l : List Int} {i : Nat} (h : i < l.length) : g l.reverse i = g l (l.length - 1 - i) := by
  rw [g_lt (by simpa using h), g_lt (by omega), List.getElem_reverse]
theorem ReverseA_ac (r ver : Nat) (l : List Int) (H : AH) (Q : AV → AH → Prop) (hlen : l.length ≤ 1000000) (hr : Rw r ver H l) (h : ∀ H', Rw r ver H' l.reverse → KeepX r H H' → Q (.tuple []) H') : AC Try.prog 81 [.slice (some r) 0 l.length ver 1 false] H Q :=
  Reverse_ac false r 0 l.length ver l H Q hr hlen (by omega) fun H' d h1 h2 h3 h4 => by
    have : d = l.reverse := g_ext (by simpa using h1) fun i hi => by
      rw [h2 i (by omega), if_pos (by omega), g_rev (by omega)]; congr 1; omega
    subst this
    exact h H' h3 h4
theorem reverse_nil (H : AH) (Q : AV → AH → Prop) (h : Q (.tuple []) H) : AC Try.prog 81 [.slice none 0 0 0 1 false] H Q := by
  refine L_body 28 Try.func81 rfl rfl ?_
  refine L_reg [0, 2, 3] (fun K hK => ?_)
  simp
  apply hK; clear hK K
  refine L_block (L_loopV [2, 3] (fun q vs H' => q = 0 ∧ vs = [.int .i64 0, .int .i64 (IntKind.i64.wrap (-1))] ∧ H = H') _ [.int .i64 0, .int .i64 (IntKind.i64.wrap (-1))] rfl ⟨rfl, rfl, rfl⟩ ?_)
  rintro q _ _ ⟨rfl, rfl, rfl⟩
  have hw : IntKind.i64.wrap (-1) = -1 := by decide
  refine L_reg [0, 2, 3, 9] (fun K hK => ?_)
  simp [hw]
  apply hK; clear hK K
  refine L_false (by simp) (L_exit ?_)
  exact ⟨.inl rfl, _, rfl, h⟩
theorem reverse_own {H0 H : AH} {v : AV} {l : List Int} (hE : Ext H0 H) (ho : OwnF H0.length H v (l.map (.int .i64))) (hlen : l.length ≤ 1000000) (Q : AV → AH → Prop) (h : ∀ H', OwnF H0.length H' v (l.reverse.map (.int .i64)) → Ext H0 H' → Q (.tuple []) H') : AC Try.prog 81 [v] H Q := by
  rcases ho with ⟨h1, rfl⟩ | ⟨r, ver, stale, h1, rfl, h3⟩
  · obtain rfl : l = [] := by simpa using h1
    exact reverse_nil H _ (h H (.inl ⟨rfl, rfl⟩) hE)
  · rw [List.length_map] at h ⊢
    refine ReverseA_ac r ver l H Q hlen ⟨stale, h3⟩ fun H' hr hK => h H' ?_ (hK.new hE h1)
    have := hr.ownF h1
    rw [List.length_reverse] at this
    exact this
end Go.Proofs.Ytbimapbcpmeooaa
