/- The kernel tries turning orders. -/
import Derived.Test.YticlfkmjmhjiaaaGreatDoorJ77ca
namespace Go.Proofs.YticlfkmjmhjiaaaGreatDoor
open Go Go.Proofs.YticlfkmjmhjiaaaGreatDoor.AX
set_option maxRecDepth 100000
theorem tk_3_0 : ((List.range' 0 2).all fun x => tk 3 x) = true := by kernel_rfl
theorem tk_5_0 : ((List.range' 0 6).all fun x => tk 5 x) = true := by kernel_rfl
theorem tk_6_6 : ((List.range' 6 6).all fun x => tk 6 x) = true := by kernel_rfl
theorem tk_6_24 : ((List.range' 24 6).all fun x => tk 6 x) = true := by kernel_rfl
theorem tk_7_24 : ((List.range' 24 6).all fun x => tk 7 x) = true := by kernel_rfl
theorem tk_7_60 : ((List.range' 60 6).all fun x => tk 7 x) = true := by kernel_rfl
theorem tk_7_96 : ((List.range' 96 6).all fun x => tk 7 x) = true := by kernel_rfl
theorem tk_7_132 : ((List.range' 132 6).all fun x => tk 7 x) = true := by kernel_rfl
theorem tk_7_168 : ((List.range' 168 6).all fun x => tk 7 x) = true := by kernel_rfl
theorem tk_7_204 : ((List.range' 204 6).all fun x => tk 7 x) = true := by kernel_rfl
theorem tk_7_240 : ((List.range' 240 6).all fun x => tk 7 x) = true := by kernel_rfl
end Go.Proofs.YticlfkmjmhjiaaaGreatDoor
