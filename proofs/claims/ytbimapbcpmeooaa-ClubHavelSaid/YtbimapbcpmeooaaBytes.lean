/- Bytes that came. -/
import Derived.Test.YtbimapbcpmeooaaBase
namespace Go.Proofs.Ytbimapbcpmeooaa.Cl
open Go Go.Proofs.Ytbimapbcpmeooaa Go.Proofs.Ytbimapbcpmeooaa.AX
theorem u8_of {a : Int} (h : (Lit.int .u8 a).wf = true) : ∃ n : Nat, a = n ∧ n < 256 := by
  have h1 : 0 ≤ a ∧ a ≤ 255 := by
    simp [Lit.wf, IntKind.min, IntKind.max, IntKind.bits, IntKind.signed] at h
    omega
  exact ⟨a.toNat, by omega, by omega⟩
/-- Bytes as cells. -/
def sV (b : List Nat) : List AV := b.map fun x : Nat => .int .u8 (x : Int)
theorem bytes_of {k : Nat} {l : List Int} (e : l.length = k) (b : ∀ x ∈ l, IntKind.u8.min ≤ x ∧ x ≤ IntKind.u8.max) : ∃ bs : List Nat, l.map (AV.int .u8) = sV bs ∧ bs.length = k ∧ ∀ x ∈ bs, x < 256 := by
  have e1 : IntKind.u8.min = 0 := rfl
  have e2 : IntKind.u8.max = 255 := rfl
  refine ⟨l.map Int.toNat, ?_, by simpa using e, fun x hx => ?_⟩
  · unfold sV
    rw [List.map_map]
    apply List.map_congr_left
    intro x hx
    have := b x hx
    simp only [Function.comp]
    congr 1
    omega
  · obtain ⟨y, hy, rfl⟩ := List.mem_map.1 hx
    have := b y hy
    omega
end Go.Proofs.Ytbimapbcpmeooaa.Cl
