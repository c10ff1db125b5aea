/- The kernel tries blends. -/
import Derived.Test.YtengokpphglodaaDoorJ4f7a
namespace Go.Proofs.YtengokpphglodaaDoor
open Go Go.Proofs.YtengokpphglodaaDoor.AX
set_option maxRecDepth 100000
theorem tk_1_0_0 : tk 1 0 0 = true := by kernel_rfl
theorem tk_3_2_0 : tk 3 2 0 = true := by kernel_rfl
theorem tk_4_1_3 : tk 4 1 3 = true := by kernel_rfl
theorem tk_4_3_1 : tk 4 3 1 = true := by kernel_rfl
theorem tk_5_1_3 : tk 5 1 3 = true := by kernel_rfl
theorem tk_5_2_6 : tk 5 2 6 = true := by kernel_rfl
theorem tk_5_3_4 : tk 5 3 4 = true := by kernel_rfl
theorem tk_5_4_2 : tk 5 4 2 = true := by kernel_rfl
theorem tk_6_1_3 : tk 6 1 3 = true := by kernel_rfl
theorem tk_6_2_5 : tk 6 2 5 = true := by kernel_rfl
theorem tk_6_2_13 : tk 6 2 13 = true := by kernel_rfl
theorem tk_6_3_6 : tk 6 3 6 = true := by kernel_rfl
theorem tk_6_3_14 : tk 6 3 14 = true := by kernel_rfl
theorem tk_6_4_2 : tk 6 4 2 = true := by kernel_rfl
theorem tk_6_4_10 : tk 6 4 10 = true := by kernel_rfl
theorem tk_6_5_3 : tk 6 5 3 = true := by kernel_rfl
theorem tk_7_1_3 : tk 7 1 3 = true := by kernel_rfl
theorem tk_7_2_4 : tk 7 2 4 = true := by kernel_rfl
theorem tk_7_2_12 : tk 7 2 12 = true := by kernel_rfl
theorem tk_7_2_20 : tk 7 2 20 = true := by kernel_rfl
theorem tk_7_3_7 : tk 7 3 7 = true := by kernel_rfl
theorem tk_7_3_15 : tk 7 3 15 = true := by kernel_rfl
theorem tk_7_3_23 : tk 7 3 23 = true := by kernel_rfl
theorem tk_7_3_31 : tk 7 3 31 = true := by kernel_rfl
theorem tk_7_4_4 : tk 7 4 4 = true := by kernel_rfl
theorem tk_7_4_12 : tk 7 4 12 = true := by kernel_rfl
theorem tk_7_4_20 : tk 7 4 20 = true := by kernel_rfl
theorem tk_7_4_28 : tk 7 4 28 = true := by kernel_rfl
theorem tk_7_5_1 : tk 7 5 1 = true := by kernel_rfl
theorem tk_7_5_9 : tk 7 5 9 = true := by kernel_rfl
theorem tk_7_5_17 : tk 7 5 17 = true := by kernel_rfl
theorem tk_7_6_4 : tk 7 6 4 = true := by kernel_rfl
end Go.Proofs.YtengokpphglodaaDoor
