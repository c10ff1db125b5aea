/- The examples of the chapter. -/
import Derived.Test.YtbhdddifpgfemaaWorks
namespace Go.Proofs.Ytbhdddifpgfemaa
open Go Go.Proofs.Ytbhdddifpgfemaa.AX
theorem known_run : runZ cxw 3000 14 [] [] = some (.bool true, []) := by kernel_rfl
theorem gradeKnown_ac (H : AH) : AC Try.prog 14 [] H fun u _ => u = .bool true := AC_kernZ cxw_ok 3000 known_run .nil (.bool _) rfl
end Go.Proofs.Ytbhdddifpgfemaa
