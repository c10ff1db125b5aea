/- The kernel tries blends. -/
import Derived.Test.YtengokpphglodaaDoorJ4f7a
namespace Go.Proofs.YtengokpphglodaaDoor
open Go Go.Proofs.YtengokpphglodaaDoor.AX
set_option maxRecDepth 100000
theorem tk_3_2_2 : tk 3 2 2 = true := by kernel_rfl
theorem tk_4_2_1 : tk 4 2 1 = true := by kernel_rfl
theorem tk_4_3_3 : tk 4 3 3 = true := by kernel_rfl
theorem tk_5_2_0 : tk 5 2 0 = true := by kernel_rfl
theorem tk_5_2_8 : tk 5 2 8 = true := by kernel_rfl
theorem tk_5_3_6 : tk 5 3 6 = true := by kernel_rfl
theorem tk_5_4_4 : tk 5 4 4 = true := by kernel_rfl
theorem tk_6_1_5 : tk 6 1 5 = true := by kernel_rfl
theorem tk_6_2_7 : tk 6 2 7 = true := by kernel_rfl
theorem tk_6_3_0 : tk 6 3 0 = true := by kernel_rfl
theorem tk_6_3_8 : tk 6 3 8 = true := by kernel_rfl
theorem tk_6_3_16 : tk 6 3 16 = true := by kernel_rfl
theorem tk_6_4_4 : tk 6 4 4 = true := by kernel_rfl
theorem tk_6_4_12 : tk 6 4 12 = true := by kernel_rfl
theorem tk_6_5_5 : tk 6 5 5 = true := by kernel_rfl
theorem tk_7_1_5 : tk 7 1 5 = true := by kernel_rfl
theorem tk_7_2_6 : tk 7 2 6 = true := by kernel_rfl
theorem tk_7_2_14 : tk 7 2 14 = true := by kernel_rfl
theorem tk_7_3_1 : tk 7 3 1 = true := by kernel_rfl
theorem tk_7_3_9 : tk 7 3 9 = true := by kernel_rfl
theorem tk_7_3_17 : tk 7 3 17 = true := by kernel_rfl
theorem tk_7_3_25 : tk 7 3 25 = true := by kernel_rfl
theorem tk_7_3_33 : tk 7 3 33 = true := by kernel_rfl
theorem tk_7_4_6 : tk 7 4 6 = true := by kernel_rfl
theorem tk_7_4_14 : tk 7 4 14 = true := by kernel_rfl
theorem tk_7_4_22 : tk 7 4 22 = true := by kernel_rfl
theorem tk_7_4_30 : tk 7 4 30 = true := by kernel_rfl
theorem tk_7_5_3 : tk 7 5 3 = true := by kernel_rfl
theorem tk_7_5_11 : tk 7 5 11 = true := by kernel_rfl
theorem tk_7_5_19 : tk 7 5 19 = true := by kernel_rfl
theorem tk_7_6_6 : tk 7 6 6 = true := by kernel_rfl
end Go.Proofs.YtengokpphglodaaDoor
