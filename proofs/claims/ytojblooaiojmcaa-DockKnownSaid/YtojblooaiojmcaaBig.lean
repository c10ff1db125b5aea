/- The count of eight carts. -/
import Derived.Test.YtojblooaiojmcaaCount2
namespace Go.Proofs.Ytojblooaiojmcaa
open Go Go.Proofs.Ytojblooaiojmcaa.AX
theorem count88 : AC Try.prog 33 [.int .i64 8, .int .i64 8] [] fun v' H' => v' = .tuple [.int .i64 4782969, .int .i64 0] ∧ H' = [] := by
  have hE : cartsE 8 8 = 0 := by decide
  have hS : countS 8 8 = 4782969 := by
    rw [countS, if_neg (by rw [hE]; decide)]
    show ((tlF 8 8 0 : Nat) : Int) = _
    rw [tlF88]; rfl
  refine AC_fin (Count_ac 8 8 [] _ ?_)
  rw [hE, hS]
  intro H' _
  refine ⟨⟨Nat.zero_le _, fun r o hr => absurd hr (Nat.not_lt_zero _)⟩, ?_, ?_⟩ <;> simp [finish, belB]
end Go.Proofs.Ytojblooaiojmcaa
