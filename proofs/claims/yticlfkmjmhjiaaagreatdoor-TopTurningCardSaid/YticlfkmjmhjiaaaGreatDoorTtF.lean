/- The kernel tries turning orders. -/
import Derived.Test.YticlfkmjmhjiaaaGreatDoorJ77ca
namespace Go.Proofs.YticlfkmjmhjiaaaGreatDoor
open Go Go.Proofs.YticlfkmjmhjiaaaGreatDoor.AX
set_option maxRecDepth 100000
theorem tk_5_6 : ((List.range' 6 6).all fun x => tk 5 x) = true := by kernel_rfl
theorem tk_6_12 : ((List.range' 12 6).all fun x => tk 6 x) = true := by kernel_rfl
theorem tk_6_30 : ((List.range' 30 6).all fun x => tk 6 x) = true := by kernel_rfl
theorem tk_6_60 : ((List.range' 60 1).all fun x => tk 6 x) = true := by kernel_rfl
theorem tk_7_30 : ((List.range' 30 6).all fun x => tk 7 x) = true := by kernel_rfl
theorem tk_7_66 : ((List.range' 66 6).all fun x => tk 7 x) = true := by kernel_rfl
theorem tk_7_102 : ((List.range' 102 6).all fun x => tk 7 x) = true := by kernel_rfl
theorem tk_7_138 : ((List.range' 138 6).all fun x => tk 7 x) = true := by kernel_rfl
theorem tk_7_174 : ((List.range' 174 6).all fun x => tk 7 x) = true := by kernel_rfl
theorem tk_7_210 : ((List.range' 210 6).all fun x => tk 7 x) = true := by kernel_rfl
theorem tk_7_246 : ((List.range' 246 6).all fun x => tk 7 x) = true := by kernel_rfl
end Go.Proofs.YticlfkmjmhjiaaaGreatDoor
