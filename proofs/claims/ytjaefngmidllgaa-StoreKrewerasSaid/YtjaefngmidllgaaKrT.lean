/- Flat divisions of up to six boxes: the table. -/
import Derived.Test.YtjaefngmidllgaaKrM
namespace Go.Proofs.Ytjaefngmidllgaa.St
open Go Go.Proofs.Ytjaefngmidllgaa Go.Proofs.Ytjaefngmidllgaa.AX
set_option maxRecDepth 100000
set_option linter.unusedVariables false
theorem fac_all : ∀ n, n < 6 → (enA (n + 1)).all (facB (n + 1)) = true := by decide +kernel
structure Fac (n : Nat) (d : List Nat) : Prop where
  rooms : opn 0 (gp d) + opn 0 d = n + 1
  flat : crS (gp d) = 0
  whole : ∀ j, j < n → ∀ i, i < j → whF d i j (opn 0 d) = (ga (gp d) i == ga (gp d) j)
  back : owS (gp d) = d
  flat2 : crS (owS d) = 0
  there : gp (owS d) = d
theorem fac_of {n : Nat} {d : List Nat} (h1 : 1 ≤ n) (h6 : n ≤ 6) (hr : rg 0 d = true) (hl : d.length = n) (hc : crS d = 0) : Fac n d := by
  obtain ⟨m, rfl⟩ : ∃ m, n = m + 1 := ⟨n - 1, by omega⟩
  have hm : d ∈ enA (m + 1) := by rw [← hl]; exact mem_enA hr
  have := List.all_eq_true.1 (fac_all m (by omega)) d hm
  unfold facB at this
  simp only [Bool.or_eq_true, Bool.and_eq_true, decide_eq_true_eq, List.all_eq_true, List.mem_range, beq_iff_eq] at this
  rcases this with h | ⟨⟨⟨⟨⟨a, b⟩, c⟩, d'⟩, e⟩, f⟩
  · exact absurd hc h
  · exact ⟨a, b, fun j hj i hi => by simpa using c j hj i hi, d', e, f⟩
end Go.Proofs.Ytjaefngmidllgaa.St
