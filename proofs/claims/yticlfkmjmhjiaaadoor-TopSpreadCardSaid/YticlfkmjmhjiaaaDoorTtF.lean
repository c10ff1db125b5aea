/- The kernel tries wrappers. -/
import Derived.Test.YticlfkmjmhjiaaaDoorJffca
namespace Go.Proofs.YticlfkmjmhjiaaaDoor
open Go Go.Proofs.YticlfkmjmhjiaaaDoor.AX
set_option maxRecDepth 100000
theorem pk_2_1_1 : pk 2 1 1 = true := by kernel_rfl
theorem pk_4_3_1 : pk 4 3 1 = true := by kernel_rfl
theorem pk_5_1_3 : pk 5 1 3 = true := by kernel_rfl
theorem pk_5_2_4 : pk 5 2 4 = true := by kernel_rfl
theorem pk_5_3_1 : pk 5 3 1 = true := by kernel_rfl
theorem pk_5_3_2 : pk 5 3 2 = true := by kernel_rfl
theorem pk_6_2_2 : pk 6 2 2 = true := by kernel_rfl
theorem pk_6_2_3 : pk 6 2 3 = true := by kernel_rfl
theorem pk_6_3_1 : pk 6 3 1 = true := by kernel_rfl
theorem pk_6_5_5 : pk 6 5 5 = true := by kernel_rfl
theorem pk_6_5_6 : pk 6 5 6 = true := by kernel_rfl
theorem pk_7_2_5 : pk 7 2 5 = true := by kernel_rfl
theorem pk_7_3_2 : pk 7 3 2 = true := by kernel_rfl
theorem pk_7_4_3 : pk 7 4 3 = true := by kernel_rfl
theorem pk_7_6_1 : pk 7 6 1 = true := by kernel_rfl
theorem pk_7_6_4 : pk 7 6 4 = true := by kernel_rfl
theorem pk_7_6_6 : pk 7 6 6 = true := by kernel_rfl
theorem pk_7_6_7 : pk 7 6 7 = true := by kernel_rfl
theorem pk_8_1_1 : pk 8 1 1 = true := by kernel_rfl
theorem pk_8_2_2 : pk 8 2 2 = true := by kernel_rfl
theorem pk_8_2_4 : pk 8 2 4 = true := by kernel_rfl
theorem pk_8_3_7 : pk 8 3 7 = true := by kernel_rfl
theorem pk_8_5_3 : pk 8 5 3 = true := by kernel_rfl
theorem pk_8_7_1 : pk 8 7 1 = true := by kernel_rfl
theorem pk_8_7_7 : pk 8 7 7 = true := by kernel_rfl
end Go.Proofs.YticlfkmjmhjiaaaDoor
