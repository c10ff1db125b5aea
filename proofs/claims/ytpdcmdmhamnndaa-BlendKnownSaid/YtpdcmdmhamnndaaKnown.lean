/- The examples of the chapter. -/
import Derived.Test.YtpdcmdmhamnndaaWorks
namespace Go.Proofs.Ytpdcmdmhamnndaa
open Go Go.Proofs.Ytpdcmdmhamnndaa.AX
theorem known_run : callN (runZ cxw 3000) 13 [] [] = some (.bool true, []) := by kernel_rfl
theorem blendKnown_ac (H : AH) : AC Try.prog 13 [] H fun u _ => u = .bool true := AC_kernZ cxw_ok 3000 known_run .nil (.bool _) rfl
end Go.Proofs.Ytpdcmdmhamnndaa
