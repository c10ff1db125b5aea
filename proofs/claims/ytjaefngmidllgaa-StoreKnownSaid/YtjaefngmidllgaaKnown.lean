/- The examples of the chapter. -/
import Derived.Test.YtjaefngmidllgaaWorks
namespace Go.Proofs.Ytjaefngmidllgaa.St
open Go Go.Proofs.Ytjaefngmidllgaa Go.Proofs.Ytjaefngmidllgaa.AX

set_option maxRecDepth 100000 in
theorem known_run : callN (runZ cxw 3000) 14 [] [] = some (.bool true, []) := by kernel_rfl
theorem known_ac (H : AH) : AC Try.prog 14 [] H fun v _ => v = .bool true := AC_kernZ cxw_ok 3000 known_run .nil (.bool _) rfl
end Go.Proofs.Ytjaefngmidllgaa.St
