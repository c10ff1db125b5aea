/- The kernel tries turning orders. -/
import Derived.Test.YticlfkmjmhjiaaaGreatDoorJ77ca
namespace Go.Proofs.YticlfkmjmhjiaaaGreatDoor
open Go Go.Proofs.YticlfkmjmhjiaaaGreatDoor.AX
set_option maxRecDepth 100000
theorem tk_2_0 : ((List.range' 0 1).all fun x => tk 2 x) = true := by kernel_rfl
theorem tk_4_0 : ((List.range' 0 5).all fun x => tk 4 x) = true := by kernel_rfl
theorem tk_6_36 : ((List.range' 36 6).all fun x => tk 6 x) = true := by kernel_rfl
theorem tk_7_0 : ((List.range' 0 6).all fun x => tk 7 x) = true := by kernel_rfl
theorem tk_7_36 : ((List.range' 36 6).all fun x => tk 7 x) = true := by kernel_rfl
theorem tk_7_72 : ((List.range' 72 6).all fun x => tk 7 x) = true := by kernel_rfl
theorem tk_7_108 : ((List.range' 108 6).all fun x => tk 7 x) = true := by kernel_rfl
theorem tk_7_144 : ((List.range' 144 6).all fun x => tk 7 x) = true := by kernel_rfl
theorem tk_7_180 : ((List.range' 180 6).all fun x => tk 7 x) = true := by kernel_rfl
theorem tk_7_216 : ((List.range' 216 6).all fun x => tk 7 x) = true := by kernel_rfl
theorem tk_7_252 : ((List.range' 252 6).all fun x => tk 7 x) = true := by kernel_rfl
end Go.Proofs.YticlfkmjmhjiaaaGreatDoor
