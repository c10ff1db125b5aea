/- The examples of the chapter hold. -/
import Derived.Test.YtpijmamkmhfocaaFacts
namespace Go.Proofs.Ytpijmamkmhfocaa
open Go Go.Proofs.Ytpijmamkmhfocaa.AX
theorem works_run : runF cx 3000 15 [] [] = some (.bool true, []) := by kernel_rfl
theorem works_ac (H : AH) (Q : AV → AH → Prop) (h : Q (.bool true) H) : AC Try.prog 15 [] H Q := AC_kern cx_ok 3000 works_run .nil (.bool _) h
end Go.Proofs.Ytpijmamkmhfocaa
