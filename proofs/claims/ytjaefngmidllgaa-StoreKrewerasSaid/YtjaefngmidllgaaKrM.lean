/- Flat divisions and those of their gaps: what holds of up to six boxes, by a table. -/
import Derived.Test.YtjaefngmidllgaaStA
import Derived.Test.YtjaefngmidllgaaFltM
import Derived.Test.YtjaefngmidllgaaAll
namespace Go.Proofs.Ytjaefngmidllgaa.St
open Go Go.Proofs.Ytjaefngmidllgaa Go.Proofs.Ytjaefngmidllgaa.AX
set_option maxRecDepth 100000
set_option linter.unusedVariables false
theorem mem_enS : ∀ (k o : Nat) (b t : List Nat), t.length = k → rg o t = true → b ++ t ∈ enS k o b
  | 0, o, b, t, h, _ => by
    obtain rfl : t = [] := List.eq_nil_of_length_eq_zero h
    simp [enS]
  | k + 1, o, b, [], h, _ => by simp at h
  | k + 1, o, b, x :: t, h, hr => by
    simp only [rg, Bool.and_eq_true, decide_eq_true_eq] at hr
    simp only [enS, List.mem_flatMap, List.mem_range]
    refine ⟨x, by omega, ?_⟩
    have e : max o (x + 1) = if x = o then o + 1 else o := by split <;> omega
    rw [e]
    have := mem_enS k (if x = o then o + 1 else o) (b ++ [x]) t (by simpa using h) hr.2
    simpa using this
theorem mem_enA {d : List Nat} (h : rg 0 d = true) : d ∈ enA d.length := by
  have := mem_enS d.length 0 [] d rfl h
  simpa [enA] using this
/-- Whether some box of a room is between two gaps, among the first ones; whether one is not. -/
def inF (d : List Nat) (i j r k : Nat) : Bool := (List.range k).any fun m => ga d m == r && (decide (i < m) && decide (m ≤ j))
def outF (d : List Nat) (i j r k : Nat) : Bool := (List.range k).any fun m => ga d m == r && !(decide (i < m) && decide (m ≤ j))
/-- Whether the first rooms are whole. -/
def whF (d : List Nat) (i j r : Nat) : Bool := (List.range r).all fun r => !(inF d i j r d.length && outF d i j r d.length)
theorem inF_succ (d : List Nat) (i j r k : Nat) : inF d i j r (k + 1) = (inF d i j r k || (ga d k == r && (decide (i < k) && decide (k ≤ j)))) := by
  unfold inF; rw [List.range_succ, List.any_append]; simp
theorem outF_succ (d : List Nat) (i j r k : Nat) : outF d i j r (k + 1) = (outF d i j r k || (ga d k == r && !(decide (i < k) && decide (k ≤ j)))) := by
  unfold outF; rw [List.range_succ, List.any_append]; simp
theorem whF_succ (d : List Nat) (i j r : Nat) : whF d i j (r + 1) = (whF d i j r && !(inF d i j r d.length && outF d i j r d.length)) := by
  unfold whF; rw [List.range_succ, List.all_append]; simp
/-- What holds of a flat division. -/
def facB (n : Nat) (d : List Nat) : Bool := decide (crS d ≠ 0) || (decide (opn 0 (gp d) + opn 0 d = n + 1) && decide (crS (gp d) = 0) && ((List.range n).all fun j => (List.range j).all fun i => whF d i j (opn 0 d) == (ga (gp d) i == ga (gp d) j)) && decide (owS (gp d) = d) && decide (crS (owS d) = 0) && decide (gp (owS d) = d))
/-- A division's name. -/
def nm (g : List Nat) : List UInt8 := g.map fun x => UInt8.ofNat (97 + x)
/-- Whether all is well, how many flat ones came, the names of their gaps. -/
def visK (st : Bool × Int × List (List UInt8)) (d : List Nat) : Bool × Int × List (List UInt8) :=
  if !st.1 then st else if crS d ≠ 0 then st else (!(st.2.2.contains (nm (gp d))), IntKind.i64.wrap (st.2.1 + 1), if st.2.2.contains (nm (gp d)) then st.2.2 else st.2.2 ++ [nm (gp d)])
end Go.Proofs.Ytjaefngmidllgaa.St
