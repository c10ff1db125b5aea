/- The kernel tries wrappers. -/
import Derived.Test.YticlfkmjmhjiaaaDoorJffca
namespace Go.Proofs.YticlfkmjmhjiaaaDoor
open Go Go.Proofs.YticlfkmjmhjiaaaDoor.AX
set_option maxRecDepth 100000
theorem pk_2_0_1 : pk 2 0 1 = true := by kernel_rfl
theorem pk_3_2_2 : pk 3 2 2 = true := by kernel_rfl
theorem pk_4_1_4 : pk 4 1 4 = true := by kernel_rfl
theorem pk_4_2_1 : pk 4 2 1 = true := by kernel_rfl
theorem pk_5_1_5 : pk 5 1 5 = true := by kernel_rfl
theorem pk_5_2_3 : pk 5 2 3 = true := by kernel_rfl
theorem pk_5_3_4 : pk 5 3 4 = true := by kernel_rfl
theorem pk_5_4_2 : pk 5 4 2 = true := by kernel_rfl
theorem pk_6_1_4 : pk 6 1 4 = true := by kernel_rfl
theorem pk_6_3_2 : pk 6 3 2 = true := by kernel_rfl
theorem pk_6_5_1 : pk 6 5 1 = true := by kernel_rfl
theorem pk_7_0_1 : pk 7 0 1 = true := by kernel_rfl
theorem pk_7_1_4 : pk 7 1 4 = true := by kernel_rfl
theorem pk_7_1_6 : pk 7 1 6 = true := by kernel_rfl
theorem pk_7_1_7 : pk 7 1 7 = true := by kernel_rfl
theorem pk_7_2_1 : pk 7 2 1 = true := by kernel_rfl
theorem pk_7_3_5 : pk 7 3 5 = true := by kernel_rfl
theorem pk_7_4_2 : pk 7 4 2 = true := by kernel_rfl
theorem pk_8_1_5 : pk 8 1 5 = true := by kernel_rfl
theorem pk_8_1_6 : pk 8 1 6 = true := by kernel_rfl
theorem pk_8_1_8 : pk 8 1 8 = true := by kernel_rfl
theorem pk_8_2_1 : pk 8 2 1 = true := by kernel_rfl
theorem pk_8_3_2 : pk 8 3 2 = true := by kernel_rfl
theorem pk_8_3_4 : pk 8 3 4 = true := by kernel_rfl
theorem pk_8_6_3 : pk 8 6 3 = true := by kernel_rfl
end Go.Proofs.YticlfkmjmhjiaaaDoor
