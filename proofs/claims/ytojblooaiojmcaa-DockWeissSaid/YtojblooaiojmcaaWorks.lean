import Derived.Test.YtojblooaiojmcaaFacts
namespace Go.Proofs.Ytojblooaiojmcaa
open Go Go.Proofs.Ytojblooaiojmcaa.AX
theorem works_run : runZ cx 3000 15 [] [] = some (.bool true, []) := by kernel_rfl

theorem works_ac (H : AH) (Q : AV → AH → Prop) (h : Q (.bool true) H) : AC Try.prog 15 [] H Q := AC_kernZ cx_ok 3000 works_run .nil (.bool _) h
end Go.Proofs.Ytojblooaiojmcaa
