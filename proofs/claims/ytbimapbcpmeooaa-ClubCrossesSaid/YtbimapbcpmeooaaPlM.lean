/- Plans that are told: their tables, who sits with whom, and what is wrong with them. Pure. -/
import Derived.Test.YtbimapbcpmeooaaCanM
namespace Go.Proofs.Ytbimapbcpmeooaa.Cl
set_option linter.unusedVariables false
abbrev Ti := Int × Int
/-- Two sit at one of some tables. -/
def hasT (L : List Ti) (a b : Int) : Bool := L.any fun p => (p.1 == a && p.2 == b) || (p.1 == b && p.2 == a)
theorem hasT_snoc (L : List Ti) (p : Ti) (a b : Int) : hasT (L ++ [p]) a b = (hasT L a b || ((p.1 == a && p.2 == b) || (p.1 == b && p.2 == a))) := by simp [hasT, List.any_append]
theorem hasT_sym (L : List Ti) (a b : Int) : hasT L a b = hasT L b a := by
  unfold hasT
  congr 1
  funext p
  rw [Bool.or_comm]
/-- A sorter's number. -/
def okS (n a : Int) : Bool := decide (0 ≤ a) && decide (a < n)
/-- The first error among tables, behind those of L. -/
def errT (n : Int) : List Ti → List Ti → Int
  | _, [] => 0
  | L, p :: R => if okS n p.1 = true ∧ okS n p.2 = true then if p.1 = p.2 then 13 else if hasT L p.1 p.2 = true then 6 else errT n (L ++ [p]) R else 2
/-- The error of a plan. -/
def errP (n : Int) (L : List Ti) : Int := if 1 ≤ n ∧ n ≤ 8 then if 28 < L.length then 3 else errT n [] L else 1
/-- What is known of a plan that passes. -/
structure OkP (n : Int) (L : List Ti) : Prop where
  lo : 1 ≤ n
  hi : n ≤ 8
  len : L.length ≤ 28
  rg : ∀ p ∈ L, 0 ≤ p.1 ∧ p.1 < n ∧ 0 ≤ p.2 ∧ p.2 < n ∧ p.1 ≠ p.2
theorem errT_ok {n : Int} : ∀ {R L : List Ti}, errT n L R = 0 → ∀ p ∈ R, 0 ≤ p.1 ∧ p.1 < n ∧ 0 ≤ p.2 ∧ p.2 < n ∧ p.1 ≠ p.2
  | [], L, _, p, hp => by cases hp
  | q :: R, L, h, p, hp => by
    unfold errT at h
    split at h
    · rename_i h1
      split at h
      · cases h
      · rename_i h2
        split at h
        · cases h
        · rcases List.mem_cons.1 hp with rfl | hp
          · simp [okS] at h1
            exact ⟨h1.1.1, h1.1.2, h1.2.1, h1.2.2, h2⟩
          · exact errT_ok h p hp
    · cases h
theorem errP_ok {n : Int} {L : List Ti} (h : errP n L = 0) : OkP n L := by
  unfold errP at h
  split at h
  · rename_i h1
    split at h
    · cases h
    · rename_i h2
      exact ⟨h1.1, h1.2, by omega, errT_ok h⟩
  · cases h
/-- Who sits with whom. -/
def gT (L : List Ti) (a b : Nat) : Bool := hasT L a b
end Go.Proofs.Ytbimapbcpmeooaa.Cl
