/- The kernel tries turning orders. -/
import Derived.Test.YticlfkmjmhjiaaaGreatDoorJ77ca
namespace Go.Proofs.YticlfkmjmhjiaaaGreatDoor
open Go Go.Proofs.YticlfkmjmhjiaaaGreatDoor.AX
set_option maxRecDepth 100000
theorem tk_5_12 : ((List.range' 12 4).all fun x => tk 5 x) = true := by kernel_rfl
theorem tk_6_42 : ((List.range' 42 6).all fun x => tk 6 x) = true := by kernel_rfl
theorem tk_7_6 : ((List.range' 6 6).all fun x => tk 7 x) = true := by kernel_rfl
theorem tk_7_42 : ((List.range' 42 6).all fun x => tk 7 x) = true := by kernel_rfl
theorem tk_7_78 : ((List.range' 78 6).all fun x => tk 7 x) = true := by kernel_rfl
theorem tk_7_114 : ((List.range' 114 6).all fun x => tk 7 x) = true := by kernel_rfl
theorem tk_7_150 : ((List.range' 150 6).all fun x => tk 7 x) = true := by kernel_rfl
theorem tk_7_186 : ((List.range' 186 6).all fun x => tk 7 x) = true := by kernel_rfl
theorem tk_7_222 : ((List.range' 222 6).all fun x => tk 7 x) = true := by kernel_rfl
theorem tk_7_258 : ((List.range' 258 6).all fun x => tk 7 x) = true := by kernel_rfl
end Go.Proofs.YticlfkmjmhjiaaaGreatDoor
