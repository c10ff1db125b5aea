/- The kernel tries turning orders. -/
import Derived.Test.YticlfkmjmhjiaaaGreatDoorJ77ca
namespace Go.Proofs.YticlfkmjmhjiaaaGreatDoor
open Go Go.Proofs.YticlfkmjmhjiaaaGreatDoor.AX
set_option maxRecDepth 100000
theorem tk_1_0 : ((List.range' 0 1).all fun x => tk 1 x) = true := by kernel_rfl
theorem tk_6_48 : ((List.range' 48 6).all fun x => tk 6 x) = true := by kernel_rfl
theorem tk_7_12 : ((List.range' 12 6).all fun x => tk 7 x) = true := by kernel_rfl
theorem tk_7_48 : ((List.range' 48 6).all fun x => tk 7 x) = true := by kernel_rfl
theorem tk_7_84 : ((List.range' 84 6).all fun x => tk 7 x) = true := by kernel_rfl
theorem tk_7_120 : ((List.range' 120 6).all fun x => tk 7 x) = true := by kernel_rfl
theorem tk_7_156 : ((List.range' 156 6).all fun x => tk 7 x) = true := by kernel_rfl
theorem tk_7_192 : ((List.range' 192 6).all fun x => tk 7 x) = true := by kernel_rfl
theorem tk_7_228 : ((List.range' 228 6).all fun x => tk 7 x) = true := by kernel_rfl
theorem tk_7_264 : ((List.range' 264 6).all fun x => tk 7 x) = true := by kernel_rfl
theorem tk_7_270 : ((List.range' 270 2).all fun x => tk 7 x) = true := by kernel_rfl
end Go.Proofs.YticlfkmjmhjiaaaGreatDoor
