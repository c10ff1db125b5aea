/- The kernel tries blends. -/
import Derived.Test.YtengokpphglodaaDoorJ4f7a
namespace Go.Proofs.YtengokpphglodaaDoor
open Go Go.Proofs.YtengokpphglodaaDoor.AX
set_option maxRecDepth 100000
theorem tk_2_0_0 : tk 2 0 0 = true := by kernel_rfl
theorem tk_3_0_0 : tk 3 0 0 = true := by kernel_rfl
theorem tk_4_0_0 : tk 4 0 0 = true := by kernel_rfl
theorem tk_4_2_3 : tk 4 2 3 = true := by kernel_rfl
theorem tk_5_0_0 : tk 5 0 0 = true := by kernel_rfl
theorem tk_5_2_2 : tk 5 2 2 = true := by kernel_rfl
theorem tk_5_3_0 : tk 5 3 0 = true := by kernel_rfl
theorem tk_5_3_8 : tk 5 3 8 = true := by kernel_rfl
theorem tk_6_0_0 : tk 6 0 0 = true := by kernel_rfl
theorem tk_6_2_1 : tk 6 2 1 = true := by kernel_rfl
theorem tk_6_2_9 : tk 6 2 9 = true := by kernel_rfl
theorem tk_6_3_2 : tk 6 3 2 = true := by kernel_rfl
theorem tk_6_3_10 : tk 6 3 10 = true := by kernel_rfl
theorem tk_6_3_18 : tk 6 3 18 = true := by kernel_rfl
theorem tk_6_4_6 : tk 6 4 6 = true := by kernel_rfl
theorem tk_6_4_14 : tk 6 4 14 = true := by kernel_rfl
theorem tk_7_0_0 : tk 7 0 0 = true := by kernel_rfl
theorem tk_7_2_0 : tk 7 2 0 = true := by kernel_rfl
theorem tk_7_2_8 : tk 7 2 8 = true := by kernel_rfl
theorem tk_7_2_16 : tk 7 2 16 = true := by kernel_rfl
theorem tk_7_3_3 : tk 7 3 3 = true := by kernel_rfl
theorem tk_7_3_11 : tk 7 3 11 = true := by kernel_rfl
theorem tk_7_3_19 : tk 7 3 19 = true := by kernel_rfl
theorem tk_7_3_27 : tk 7 3 27 = true := by kernel_rfl
theorem tk_7_4_0 : tk 7 4 0 = true := by kernel_rfl
theorem tk_7_4_8 : tk 7 4 8 = true := by kernel_rfl
theorem tk_7_4_16 : tk 7 4 16 = true := by kernel_rfl
theorem tk_7_4_24 : tk 7 4 24 = true := by kernel_rfl
theorem tk_7_4_32 : tk 7 4 32 = true := by kernel_rfl
theorem tk_7_5_5 : tk 7 5 5 = true := by kernel_rfl
theorem tk_7_5_13 : tk 7 5 13 = true := by kernel_rfl
theorem tk_7_6_0 : tk 7 6 0 = true := by kernel_rfl
end Go.Proofs.YtengokpphglodaaDoor
