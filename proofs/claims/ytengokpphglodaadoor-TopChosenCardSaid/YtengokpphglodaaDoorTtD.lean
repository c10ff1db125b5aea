/- The kernel tries blends. -/
import Derived.Test.YtengokpphglodaaDoorJ4f7a
namespace Go.Proofs.YtengokpphglodaaDoor
open Go Go.Proofs.YtengokpphglodaaDoor.AX
set_option maxRecDepth 100000
theorem tk_2_2_0 : tk 2 2 0 = true := by kernel_rfl
theorem tk_3_1_2 : tk 3 1 2 = true := by kernel_rfl
theorem tk_4_1_2 : tk 4 1 2 = true := by kernel_rfl
theorem tk_4_3_0 : tk 4 3 0 = true := by kernel_rfl
theorem tk_5_1_2 : tk 5 1 2 = true := by kernel_rfl
theorem tk_5_2_5 : tk 5 2 5 = true := by kernel_rfl
theorem tk_5_3_3 : tk 5 3 3 = true := by kernel_rfl
theorem tk_5_4_1 : tk 5 4 1 = true := by kernel_rfl
theorem tk_6_1_2 : tk 6 1 2 = true := by kernel_rfl
theorem tk_6_2_4 : tk 6 2 4 = true := by kernel_rfl
theorem tk_6_2_12 : tk 6 2 12 = true := by kernel_rfl
theorem tk_6_3_5 : tk 6 3 5 = true := by kernel_rfl
theorem tk_6_3_13 : tk 6 3 13 = true := by kernel_rfl
theorem tk_6_4_1 : tk 6 4 1 = true := by kernel_rfl
theorem tk_6_4_9 : tk 6 4 9 = true := by kernel_rfl
theorem tk_6_5_2 : tk 6 5 2 = true := by kernel_rfl
theorem tk_7_1_2 : tk 7 1 2 = true := by kernel_rfl
theorem tk_7_2_3 : tk 7 2 3 = true := by kernel_rfl
theorem tk_7_2_11 : tk 7 2 11 = true := by kernel_rfl
theorem tk_7_2_19 : tk 7 2 19 = true := by kernel_rfl
theorem tk_7_3_6 : tk 7 3 6 = true := by kernel_rfl
theorem tk_7_3_14 : tk 7 3 14 = true := by kernel_rfl
theorem tk_7_3_22 : tk 7 3 22 = true := by kernel_rfl
theorem tk_7_3_30 : tk 7 3 30 = true := by kernel_rfl
theorem tk_7_4_3 : tk 7 4 3 = true := by kernel_rfl
theorem tk_7_4_11 : tk 7 4 11 = true := by kernel_rfl
theorem tk_7_4_19 : tk 7 4 19 = true := by kernel_rfl
theorem tk_7_4_27 : tk 7 4 27 = true := by kernel_rfl
theorem tk_7_5_0 : tk 7 5 0 = true := by kernel_rfl
theorem tk_7_5_8 : tk 7 5 8 = true := by kernel_rfl
theorem tk_7_5_16 : tk 7 5 16 = true := by kernel_rfl
theorem tk_7_6_3 : tk 7 6 3 = true := by kernel_rfl
end Go.Proofs.YtengokpphglodaaDoor
