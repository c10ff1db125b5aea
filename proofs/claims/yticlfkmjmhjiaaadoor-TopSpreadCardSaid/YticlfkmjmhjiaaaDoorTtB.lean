/- The kernel tries wrappers. -/
import Derived.Test.YticlfkmjmhjiaaaDoorJffca
namespace Go.Proofs.YticlfkmjmhjiaaaDoor
open Go Go.Proofs.YticlfkmjmhjiaaaDoor.AX
set_option maxRecDepth 100000
theorem pk_1_0_1 : pk 1 0 1 = true := by kernel_rfl
theorem pk_3_1_3 : pk 3 1 3 = true := by kernel_rfl
theorem pk_4_2_2 : pk 4 2 2 = true := by kernel_rfl
theorem pk_4_3_4 : pk 4 3 4 = true := by kernel_rfl
theorem pk_5_0_1 : pk 5 0 1 = true := by kernel_rfl
theorem pk_5_2_5 : pk 5 2 5 = true := by kernel_rfl
theorem pk_5_3_3 : pk 5 3 3 = true := by kernel_rfl
theorem pk_5_4_1 : pk 5 4 1 = true := by kernel_rfl
theorem pk_5_4_4 : pk 5 4 4 = true := by kernel_rfl
theorem pk_6_0_1 : pk 6 0 1 = true := by kernel_rfl
theorem pk_6_4_2 : pk 6 4 2 = true := by kernel_rfl
theorem pk_6_5_4 : pk 6 5 4 = true := by kernel_rfl
theorem pk_7_2_4 : pk 7 2 4 = true := by kernel_rfl
theorem pk_7_2_6 : pk 7 2 6 = true := by kernel_rfl
theorem pk_7_2_7 : pk 7 2 7 = true := by kernel_rfl
theorem pk_7_3_1 : pk 7 3 1 = true := by kernel_rfl
theorem pk_7_4_5 : pk 7 4 5 = true := by kernel_rfl
theorem pk_7_5_2 : pk 7 5 2 = true := by kernel_rfl
theorem pk_8_3_5 : pk 8 3 5 = true := by kernel_rfl
theorem pk_8_3_6 : pk 8 3 6 = true := by kernel_rfl
theorem pk_8_3_8 : pk 8 3 8 = true := by kernel_rfl
theorem pk_8_4_1 : pk 8 4 1 = true := by kernel_rfl
theorem pk_8_4_2 : pk 8 4 2 = true := by kernel_rfl
theorem pk_8_5_4 : pk 8 5 4 = true := by kernel_rfl
theorem pk_8_7_3 : pk 8 7 3 = true := by kernel_rfl
end Go.Proofs.YticlfkmjmhjiaaaDoor
