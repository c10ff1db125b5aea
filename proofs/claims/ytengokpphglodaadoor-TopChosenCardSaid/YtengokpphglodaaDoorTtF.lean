/- The kernel tries blends. -/
import Derived.Test.YtengokpphglodaaDoorJ4f7a
namespace Go.Proofs.YtengokpphglodaaDoor
open Go Go.Proofs.YtengokpphglodaaDoor.AX
set_option maxRecDepth 100000
theorem tk_1_1_0 : tk 1 1 0 = true := by kernel_rfl
theorem tk_3_2_1 : tk 3 2 1 = true := by kernel_rfl
theorem tk_4_2_0 : tk 4 2 0 = true := by kernel_rfl
theorem tk_4_3_2 : tk 4 3 2 = true := by kernel_rfl
theorem tk_5_1_4 : tk 5 1 4 = true := by kernel_rfl
theorem tk_5_2_7 : tk 5 2 7 = true := by kernel_rfl
theorem tk_5_3_5 : tk 5 3 5 = true := by kernel_rfl
theorem tk_5_4_3 : tk 5 4 3 = true := by kernel_rfl
theorem tk_6_1_4 : tk 6 1 4 = true := by kernel_rfl
theorem tk_6_2_6 : tk 6 2 6 = true := by kernel_rfl
theorem tk_6_2_14 : tk 6 2 14 = true := by kernel_rfl
theorem tk_6_3_7 : tk 6 3 7 = true := by kernel_rfl
theorem tk_6_3_15 : tk 6 3 15 = true := by kernel_rfl
theorem tk_6_4_3 : tk 6 4 3 = true := by kernel_rfl
theorem tk_6_4_11 : tk 6 4 11 = true := by kernel_rfl
theorem tk_6_5_4 : tk 6 5 4 = true := by kernel_rfl
theorem tk_7_1_4 : tk 7 1 4 = true := by kernel_rfl
theorem tk_7_2_5 : tk 7 2 5 = true := by kernel_rfl
theorem tk_7_2_13 : tk 7 2 13 = true := by kernel_rfl
theorem tk_7_3_0 : tk 7 3 0 = true := by kernel_rfl
theorem tk_7_3_8 : tk 7 3 8 = true := by kernel_rfl
theorem tk_7_3_16 : tk 7 3 16 = true := by kernel_rfl
theorem tk_7_3_24 : tk 7 3 24 = true := by kernel_rfl
theorem tk_7_3_32 : tk 7 3 32 = true := by kernel_rfl
theorem tk_7_4_5 : tk 7 4 5 = true := by kernel_rfl
theorem tk_7_4_13 : tk 7 4 13 = true := by kernel_rfl
theorem tk_7_4_21 : tk 7 4 21 = true := by kernel_rfl
theorem tk_7_4_29 : tk 7 4 29 = true := by kernel_rfl
theorem tk_7_5_2 : tk 7 5 2 = true := by kernel_rfl
theorem tk_7_5_10 : tk 7 5 10 = true := by kernel_rfl
theorem tk_7_5_18 : tk 7 5 18 = true := by kernel_rfl
theorem tk_7_6_5 : tk 7 6 5 = true := by kernel_rfl
end Go.Proofs.YtengokpphglodaaDoor
