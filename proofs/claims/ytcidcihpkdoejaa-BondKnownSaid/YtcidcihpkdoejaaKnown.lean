/- The examples of the chapter. -/
import Derived.Test.YtcidcihpkdoejaaWorks
namespace Go.Proofs.Ytcidcihpkdoejaa.Bo
open Go Go.Proofs.Ytcidcihpkdoejaa Go.Proofs.Ytcidcihpkdoejaa.AX

set_option maxRecDepth 100000 in
theorem known_run : callN (runZ cxw 3000) 13 [] [] = some (.bool true, []) := by kernel_rfl
theorem known_ac (H : AH) : AC Try.prog 13 [] H fun v _ => v = .bool true := AC_kernZ cxw_ok 3000 known_run .nil (.bool _) rfl
end Go.Proofs.Ytcidcihpkdoejaa.Bo
