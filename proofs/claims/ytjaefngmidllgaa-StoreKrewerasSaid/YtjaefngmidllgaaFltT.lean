/- As many flat divisions as the sums of products say: up to nine boxes. -/
import Derived.Test.YtjaefngmidllgaaFltM
namespace Go.Proofs.Ytjaefngmidllgaa.St
open Go Go.Proofs.Ytjaefngmidllgaa Go.Proofs.Ytjaefngmidllgaa.AX
set_option maxRecDepth 100000
theorem flN_cat : ∀ n, n < 10 → flN n [] = catS n := by decide +kernel
end Go.Proofs.Ytjaefngmidllgaa.St
