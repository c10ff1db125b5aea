/- The kernel tries blends. -/
import Derived.Test.YtengokpphglodaaDoorJ4f7a
namespace Go.Proofs.YtengokpphglodaaDoor
open Go Go.Proofs.YtengokpphglodaaDoor.AX
set_option maxRecDepth 100000
theorem tk_2_1_0 : tk 2 1 0 = true := by kernel_rfl
theorem tk_3_1_0 : tk 3 1 0 = true := by kernel_rfl
theorem tk_4_1_0 : tk 4 1 0 = true := by kernel_rfl
theorem tk_4_2_4 : tk 4 2 4 = true := by kernel_rfl
theorem tk_5_1_0 : tk 5 1 0 = true := by kernel_rfl
theorem tk_5_2_3 : tk 5 2 3 = true := by kernel_rfl
theorem tk_5_3_1 : tk 5 3 1 = true := by kernel_rfl
theorem tk_5_3_9 : tk 5 3 9 = true := by kernel_rfl
theorem tk_6_1_0 : tk 6 1 0 = true := by kernel_rfl
theorem tk_6_2_2 : tk 6 2 2 = true := by kernel_rfl
theorem tk_6_2_10 : tk 6 2 10 = true := by kernel_rfl
theorem tk_6_3_3 : tk 6 3 3 = true := by kernel_rfl
theorem tk_6_3_11 : tk 6 3 11 = true := by kernel_rfl
theorem tk_6_3_19 : tk 6 3 19 = true := by kernel_rfl
theorem tk_6_4_7 : tk 6 4 7 = true := by kernel_rfl
theorem tk_6_5_0 : tk 6 5 0 = true := by kernel_rfl
theorem tk_7_1_0 : tk 7 1 0 = true := by kernel_rfl
theorem tk_7_2_1 : tk 7 2 1 = true := by kernel_rfl
theorem tk_7_2_9 : tk 7 2 9 = true := by kernel_rfl
theorem tk_7_2_17 : tk 7 2 17 = true := by kernel_rfl
theorem tk_7_3_4 : tk 7 3 4 = true := by kernel_rfl
theorem tk_7_3_12 : tk 7 3 12 = true := by kernel_rfl
theorem tk_7_3_20 : tk 7 3 20 = true := by kernel_rfl
theorem tk_7_3_28 : tk 7 3 28 = true := by kernel_rfl
theorem tk_7_4_1 : tk 7 4 1 = true := by kernel_rfl
theorem tk_7_4_9 : tk 7 4 9 = true := by kernel_rfl
theorem tk_7_4_17 : tk 7 4 17 = true := by kernel_rfl
theorem tk_7_4_25 : tk 7 4 25 = true := by kernel_rfl
theorem tk_7_4_33 : tk 7 4 33 = true := by kernel_rfl
theorem tk_7_5_6 : tk 7 5 6 = true := by kernel_rfl
theorem tk_7_5_14 : tk 7 5 14 = true := by kernel_rfl
theorem tk_7_6_1 : tk 7 6 1 = true := by kernel_rfl
end Go.Proofs.YtengokpphglodaaDoor
