/- Flat divisions of up to six boxes: their names. -/
import Derived.Test.YtjaefngmidllgaaKrM
namespace Go.Proofs.Ytjaefngmidllgaa.St
open Go Go.Proofs.Ytjaefngmidllgaa Go.Proofs.Ytjaefngmidllgaa.AX
set_option maxRecDepth 100000
set_option linter.unusedVariables false
theorem fold_K : ∀ n, n < 6 → ((enA (n + 1)).foldl visK (true, 0, [])).1 = true ∧ ((enA (n + 1)).foldl visK (true, 0, [])).2.1 = (catS (n + 1) : Int) ∧ ((enA (n + 1)).foldl visK (true, 0, [])).2.2.length = catS (n + 1) := by decide +kernel
end Go.Proofs.Ytjaefngmidllgaa.St
