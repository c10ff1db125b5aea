/- The kernel tries blends. -/
import Derived.Test.YtengokpphglodaaDoorJ4f7a
namespace Go.Proofs.YtengokpphglodaaDoor
open Go Go.Proofs.YtengokpphglodaaDoor.AX
set_option maxRecDepth 100000
theorem tk_2_1_1 : tk 2 1 1 = true := by kernel_rfl
theorem tk_3_1_1 : tk 3 1 1 = true := by kernel_rfl
theorem tk_4_1_1 : tk 4 1 1 = true := by kernel_rfl
theorem tk_4_2_5 : tk 4 2 5 = true := by kernel_rfl
theorem tk_5_1_1 : tk 5 1 1 = true := by kernel_rfl
theorem tk_5_2_4 : tk 5 2 4 = true := by kernel_rfl
theorem tk_5_3_2 : tk 5 3 2 = true := by kernel_rfl
theorem tk_5_4_0 : tk 5 4 0 = true := by kernel_rfl
theorem tk_6_1_1 : tk 6 1 1 = true := by kernel_rfl
theorem tk_6_2_3 : tk 6 2 3 = true := by kernel_rfl
theorem tk_6_2_11 : tk 6 2 11 = true := by kernel_rfl
theorem tk_6_3_4 : tk 6 3 4 = true := by kernel_rfl
theorem tk_6_3_12 : tk 6 3 12 = true := by kernel_rfl
theorem tk_6_4_0 : tk 6 4 0 = true := by kernel_rfl
theorem tk_6_4_8 : tk 6 4 8 = true := by kernel_rfl
theorem tk_6_5_1 : tk 6 5 1 = true := by kernel_rfl
theorem tk_7_1_1 : tk 7 1 1 = true := by kernel_rfl
theorem tk_7_2_2 : tk 7 2 2 = true := by kernel_rfl
theorem tk_7_2_10 : tk 7 2 10 = true := by kernel_rfl
theorem tk_7_2_18 : tk 7 2 18 = true := by kernel_rfl
theorem tk_7_3_5 : tk 7 3 5 = true := by kernel_rfl
theorem tk_7_3_13 : tk 7 3 13 = true := by kernel_rfl
theorem tk_7_3_21 : tk 7 3 21 = true := by kernel_rfl
theorem tk_7_3_29 : tk 7 3 29 = true := by kernel_rfl
theorem tk_7_4_2 : tk 7 4 2 = true := by kernel_rfl
theorem tk_7_4_10 : tk 7 4 10 = true := by kernel_rfl
theorem tk_7_4_18 : tk 7 4 18 = true := by kernel_rfl
theorem tk_7_4_26 : tk 7 4 26 = true := by kernel_rfl
theorem tk_7_4_34 : tk 7 4 34 = true := by kernel_rfl
theorem tk_7_5_7 : tk 7 5 7 = true := by kernel_rfl
theorem tk_7_5_15 : tk 7 5 15 = true := by kernel_rfl
theorem tk_7_6_2 : tk 7 6 2 = true := by kernel_rfl
end Go.Proofs.YtengokpphglodaaDoor
