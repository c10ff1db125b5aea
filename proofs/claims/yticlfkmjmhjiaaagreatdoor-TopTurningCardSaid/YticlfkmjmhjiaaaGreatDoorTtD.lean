/- The kernel tries turning orders. -/
import Derived.Test.YticlfkmjmhjiaaaGreatDoorJ77ca
namespace Go.Proofs.YticlfkmjmhjiaaaGreatDoor
open Go Go.Proofs.YticlfkmjmhjiaaaGreatDoor.AX
set_option maxRecDepth 100000
theorem tk_6_0 : ((List.range' 0 6).all fun x => tk 6 x) = true := by kernel_rfl
theorem tk_6_18 : ((List.range' 18 6).all fun x => tk 6 x) = true := by kernel_rfl
theorem tk_6_54 : ((List.range' 54 6).all fun x => tk 6 x) = true := by kernel_rfl
theorem tk_7_18 : ((List.range' 18 6).all fun x => tk 7 x) = true := by kernel_rfl
theorem tk_7_54 : ((List.range' 54 6).all fun x => tk 7 x) = true := by kernel_rfl
theorem tk_7_90 : ((List.range' 90 6).all fun x => tk 7 x) = true := by kernel_rfl
theorem tk_7_126 : ((List.range' 126 6).all fun x => tk 7 x) = true := by kernel_rfl
theorem tk_7_162 : ((List.range' 162 6).all fun x => tk 7 x) = true := by kernel_rfl
theorem tk_7_198 : ((List.range' 198 6).all fun x => tk 7 x) = true := by kernel_rfl
theorem tk_7_234 : ((List.range' 234 6).all fun x => tk 7 x) = true := by kernel_rfl
end Go.Proofs.YticlfkmjmhjiaaaGreatDoor
