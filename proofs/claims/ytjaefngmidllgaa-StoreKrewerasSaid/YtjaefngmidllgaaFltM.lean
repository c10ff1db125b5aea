/- How many flat divisions there are: the mathematics. -/
import Derived.Test.YtjaefngmidllgaaStA
namespace Go.Proofs.Ytjaefngmidllgaa.St
open Go Go.Proofs.Ytjaefngmidllgaa Go.Proofs.Ytjaefngmidllgaa.AX
set_option linter.unusedVariables false
set_option maxRecDepth 100000
/-- The flat ones that begin so. -/
def flN : Nat → List Nat → Nat
  | 0, d => if crS d = 0 then 1 else 0
  | k + 1, d => if crS d = 0 then ((List.range (opn 0 d + 1)).map fun r => flN k (d ++ [r])).sum else 0
theorem sum_le {f g : Nat → Nat} : ∀ {l : List Nat}, (∀ x ∈ l, f x ≤ g x) → (l.map f).sum ≤ (l.map g).sum
  | [], _ => Nat.le_refl _
  | x :: l, h => by
    simp only [List.map_cons, List.sum_cons]
    exact Nat.add_le_add (h x (by simp)) (sum_le fun y hy => h y (by simp [hy]))
theorem sum_const (c : Nat) : ∀ n, ((List.range n).map fun _ => c).sum = n * c
  | 0 => by simp
  | n + 1 => by rw [List.range_succ, List.map_append, List.sum_append, sum_const c n, Nat.succ_mul]; simp
theorem flN_le : ∀ (k : Nat) (d : List Nat), flN k d ≤ ways k (opn 0 d)
  | 0, d => by unfold flN ways; split <;> omega
  | k + 1, d => by
    unfold flN
    split
    · rw [List.range_succ, List.map_append, List.sum_append]
      simp only [List.map_cons, List.map_nil, List.sum_cons, List.sum_nil, Nat.add_zero, ways]
      refine Nat.add_le_add ?_ ?_
      · rw [← sum_const]
        refine sum_le fun r hr => ?_
        have := flN_le k (d ++ [r])
        rw [opn_snoc, if_neg (by have := List.mem_range.1 hr; omega)] at this
        exact this
      · have := flN_le k (d ++ [opn 0 d])
        rwa [opn_snoc, if_pos rfl] at this
    · exact Nat.zero_le _
/-- A sum of products, up to a place. -/
def cvS (F : List Nat) (m : Nat) : Nat → Nat
  | 0 => 0
  | j + 1 => cvS F m j + ga F j * ga F (m - 1 - j)
def catL : Nat → List Nat
  | 0 => [1]
  | m + 1 => catL m ++ [cvS (catL m) (m + 1) (m + 1)]
theorem catL_len : ∀ m, (catL m).length = m + 1
  | 0 => rfl
  | m + 1 => by simp [catL, catL_len m]
theorem cat_lt : ∀ m, m < 10 → ∀ j, j < m + 2 → cvS (catL m) (m + 1) j < 100000 := by decide +kernel
theorem cat_el : ∀ m, m < 10 → ∀ j, j < m + 1 → ga (catL m) j < 100000 := by decide +kernel
/-- Flat, both ways. -/
def catS (n : Nat) : Nat := ga (catL n) n
end Go.Proofs.Ytjaefngmidllgaa.St
