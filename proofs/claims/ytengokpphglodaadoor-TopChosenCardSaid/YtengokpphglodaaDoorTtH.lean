/- The kernel tries blends. -/
import Derived.Test.YtengokpphglodaaDoorJ4f7a
namespace Go.Proofs.YtengokpphglodaaDoor
open Go Go.Proofs.YtengokpphglodaaDoor.AX
set_option maxRecDepth 100000
theorem tk_3_3_0 : tk 3 3 0 = true := by kernel_rfl
theorem tk_4_2_2 : tk 4 2 2 = true := by kernel_rfl
theorem tk_4_4_0 : tk 4 4 0 = true := by kernel_rfl
theorem tk_5_2_1 : tk 5 2 1 = true := by kernel_rfl
theorem tk_5_2_9 : tk 5 2 9 = true := by kernel_rfl
theorem tk_5_3_7 : tk 5 3 7 = true := by kernel_rfl
theorem tk_5_5_0 : tk 5 5 0 = true := by kernel_rfl
theorem tk_6_2_0 : tk 6 2 0 = true := by kernel_rfl
theorem tk_6_2_8 : tk 6 2 8 = true := by kernel_rfl
theorem tk_6_3_1 : tk 6 3 1 = true := by kernel_rfl
theorem tk_6_3_9 : tk 6 3 9 = true := by kernel_rfl
theorem tk_6_3_17 : tk 6 3 17 = true := by kernel_rfl
theorem tk_6_4_5 : tk 6 4 5 = true := by kernel_rfl
theorem tk_6_4_13 : tk 6 4 13 = true := by kernel_rfl
theorem tk_6_6_0 : tk 6 6 0 = true := by kernel_rfl
theorem tk_7_1_6 : tk 7 1 6 = true := by kernel_rfl
theorem tk_7_2_7 : tk 7 2 7 = true := by kernel_rfl
theorem tk_7_2_15 : tk 7 2 15 = true := by kernel_rfl
theorem tk_7_3_2 : tk 7 3 2 = true := by kernel_rfl
theorem tk_7_3_10 : tk 7 3 10 = true := by kernel_rfl
theorem tk_7_3_18 : tk 7 3 18 = true := by kernel_rfl
theorem tk_7_3_26 : tk 7 3 26 = true := by kernel_rfl
theorem tk_7_3_34 : tk 7 3 34 = true := by kernel_rfl
theorem tk_7_4_7 : tk 7 4 7 = true := by kernel_rfl
theorem tk_7_4_15 : tk 7 4 15 = true := by kernel_rfl
theorem tk_7_4_23 : tk 7 4 23 = true := by kernel_rfl
theorem tk_7_4_31 : tk 7 4 31 = true := by kernel_rfl
theorem tk_7_5_4 : tk 7 5 4 = true := by kernel_rfl
theorem tk_7_5_12 : tk 7 5 12 = true := by kernel_rfl
theorem tk_7_5_20 : tk 7 5 20 = true := by kernel_rfl
theorem tk_7_7_0 : tk 7 7 0 = true := by kernel_rfl
end Go.Proofs.YtengokpphglodaaDoor
