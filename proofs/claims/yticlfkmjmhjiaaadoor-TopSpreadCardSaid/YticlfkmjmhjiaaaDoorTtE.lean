/- The kernel tries wrappers. -/
import Derived.Test.YticlfkmjmhjiaaaDoorJffca
namespace Go.Proofs.YticlfkmjmhjiaaaDoor
open Go Go.Proofs.YticlfkmjmhjiaaaDoor.AX
set_option maxRecDepth 100000
theorem pk_3_1_2 : pk 3 1 2 = true := by kernel_rfl
theorem pk_3_2_1 : pk 3 2 1 = true := by kernel_rfl
theorem pk_4_1_1 : pk 4 1 1 = true := by kernel_rfl
theorem pk_4_1_2 : pk 4 1 2 = true := by kernel_rfl
theorem pk_4_1_3 : pk 4 1 3 = true := by kernel_rfl
theorem pk_4_3_3 : pk 4 3 3 = true := by kernel_rfl
theorem pk_5_1_2 : pk 5 1 2 = true := by kernel_rfl
theorem pk_5_1_4 : pk 5 1 4 = true := by kernel_rfl
theorem pk_6_1_3 : pk 6 1 3 = true := by kernel_rfl
theorem pk_6_1_5 : pk 6 1 5 = true := by kernel_rfl
theorem pk_6_1_6 : pk 6 1 6 = true := by kernel_rfl
theorem pk_6_4_1 : pk 6 4 1 = true := by kernel_rfl
theorem pk_7_1_1 : pk 7 1 1 = true := by kernel_rfl
theorem pk_7_1_5 : pk 7 1 5 = true := by kernel_rfl
theorem pk_7_3_3 : pk 7 3 3 = true := by kernel_rfl
theorem pk_7_5_4 : pk 7 5 4 = true := by kernel_rfl
theorem pk_7_5_6 : pk 7 5 6 = true := by kernel_rfl
theorem pk_7_5_7 : pk 7 5 7 = true := by kernel_rfl
theorem pk_8_1_2 : pk 8 1 2 = true := by kernel_rfl
theorem pk_8_1_4 : pk 8 1 4 = true := by kernel_rfl
theorem pk_8_1_7 : pk 8 1 7 = true := by kernel_rfl
theorem pk_8_3_1 : pk 8 3 1 = true := by kernel_rfl
theorem pk_8_3_3 : pk 8 3 3 = true := by kernel_rfl
theorem pk_8_5_7 : pk 8 5 7 = true := by kernel_rfl
theorem pk_8_7_2 : pk 8 7 2 = true := by kernel_rfl
end Go.Proofs.YticlfkmjmhjiaaaDoor
