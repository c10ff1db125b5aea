/- The kernel tries wrappers. -/
import Derived.Test.YticlfkmjmhjiaaaDoorJffca
namespace Go.Proofs.YticlfkmjmhjiaaaDoor
open Go Go.Proofs.YticlfkmjmhjiaaaDoor.AX
set_option maxRecDepth 100000
theorem pk_2_1_2 : pk 2 1 2 = true := by kernel_rfl
theorem pk_3_0_1 : pk 3 0 1 = true := by kernel_rfl
theorem pk_3_2_3 : pk 3 2 3 = true := by kernel_rfl
theorem pk_4_3_2 : pk 4 3 2 = true := by kernel_rfl
theorem pk_5_1_1 : pk 5 1 1 = true := by kernel_rfl
theorem pk_5_3_5 : pk 5 3 5 = true := by kernel_rfl
theorem pk_5_4_3 : pk 5 4 3 = true := by kernel_rfl
theorem pk_6_1_1 : pk 6 1 1 = true := by kernel_rfl
theorem pk_6_4_3 : pk 6 4 3 = true := by kernel_rfl
theorem pk_6_5_2 : pk 6 5 2 = true := by kernel_rfl
theorem pk_7_1_3 : pk 7 1 3 = true := by kernel_rfl
theorem pk_7_3_4 : pk 7 3 4 = true := by kernel_rfl
theorem pk_7_3_6 : pk 7 3 6 = true := by kernel_rfl
theorem pk_7_3_7 : pk 7 3 7 = true := by kernel_rfl
theorem pk_7_4_1 : pk 7 4 1 = true := by kernel_rfl
theorem pk_7_5_3 : pk 7 5 3 = true := by kernel_rfl
theorem pk_7_5_5 : pk 7 5 5 = true := by kernel_rfl
theorem pk_7_6_2 : pk 7 6 2 = true := by kernel_rfl
theorem pk_8_1_3 : pk 8 1 3 = true := by kernel_rfl
theorem pk_8_5_1 : pk 8 5 1 = true := by kernel_rfl
theorem pk_8_5_2 : pk 8 5 2 = true := by kernel_rfl
theorem pk_8_5_5 : pk 8 5 5 = true := by kernel_rfl
theorem pk_8_5_6 : pk 8 5 6 = true := by kernel_rfl
theorem pk_8_5_8 : pk 8 5 8 = true := by kernel_rfl
theorem pk_8_6_4 : pk 8 6 4 = true := by kernel_rfl
end Go.Proofs.YticlfkmjmhjiaaaDoor
