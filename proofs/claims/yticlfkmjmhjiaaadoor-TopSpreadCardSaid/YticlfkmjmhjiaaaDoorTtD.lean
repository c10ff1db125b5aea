/- The kernel tries wrappers. -/
import Derived.Test.YticlfkmjmhjiaaaDoorJffca
namespace Go.Proofs.YticlfkmjmhjiaaaDoor
open Go Go.Proofs.YticlfkmjmhjiaaaDoor.AX
set_option maxRecDepth 100000
theorem pk_3_1_1 : pk 3 1 1 = true := by kernel_rfl
theorem pk_4_0_1 : pk 4 0 1 = true := by kernel_rfl
theorem pk_5_2_1 : pk 5 2 1 = true := by kernel_rfl
theorem pk_5_2_2 : pk 5 2 2 = true := by kernel_rfl
theorem pk_5_4_5 : pk 5 4 5 = true := by kernel_rfl
theorem pk_6_1_2 : pk 6 1 2 = true := by kernel_rfl
theorem pk_6_2_1 : pk 6 2 1 = true := by kernel_rfl
theorem pk_6_5_3 : pk 6 5 3 = true := by kernel_rfl
theorem pk_7_1_2 : pk 7 1 2 = true := by kernel_rfl
theorem pk_7_2_2 : pk 7 2 2 = true := by kernel_rfl
theorem pk_7_2_3 : pk 7 2 3 = true := by kernel_rfl
theorem pk_7_4_4 : pk 7 4 4 = true := by kernel_rfl
theorem pk_7_4_6 : pk 7 4 6 = true := by kernel_rfl
theorem pk_7_4_7 : pk 7 4 7 = true := by kernel_rfl
theorem pk_7_5_1 : pk 7 5 1 = true := by kernel_rfl
theorem pk_7_6_3 : pk 7 6 3 = true := by kernel_rfl
theorem pk_7_6_5 : pk 7 6 5 = true := by kernel_rfl
theorem pk_8_0_1 : pk 8 0 1 = true := by kernel_rfl
theorem pk_8_2_3 : pk 8 2 3 = true := by kernel_rfl
theorem pk_8_6_1 : pk 8 6 1 = true := by kernel_rfl
theorem pk_8_6_2 : pk 8 6 2 = true := by kernel_rfl
theorem pk_8_7_4 : pk 8 7 4 = true := by kernel_rfl
theorem pk_8_7_5 : pk 8 7 5 = true := by kernel_rfl
theorem pk_8_7_6 : pk 8 7 6 = true := by kernel_rfl
theorem pk_8_7_8 : pk 8 7 8 = true := by kernel_rfl
end Go.Proofs.YticlfkmjmhjiaaaDoor
