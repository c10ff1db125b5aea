/- Wrappers: all cases. -/
import Derived.Test.YticlfkmjmhjiaaaDoorTtA
import Derived.Test.YticlfkmjmhjiaaaDoorTtB
import Derived.Test.YticlfkmjmhjiaaaDoorTtC
import Derived.Test.YticlfkmjmhjiaaaDoorTtD
import Derived.Test.YticlfkmjmhjiaaaDoorTtE
import Derived.Test.YticlfkmjmhjiaaaDoorTtF
namespace Go.Proofs.YticlfkmjmhjiaaaDoor
open Go Go.Proofs.YticlfkmjmhjiaaaDoor.AX

theorem pk_1_0 (T : Nat) (h1 : 1 ≤ T) (h2 : T ≤ ordW 1 0) : pk 1 0 T = true := by
  have e : ordW 1 0 = 1 := by decide
  rw [e] at h2
  by_cases c1 : T = 1
  · subst c1; exact pk_1_0_1
  omega
theorem pk_2_0 (T : Nat) (h1 : 1 ≤ T) (h2 : T ≤ ordW 2 0) : pk 2 0 T = true := by
  have e : ordW 2 0 = 1 := by decide
  rw [e] at h2
  by_cases c1 : T = 1
  · subst c1; exact pk_2_0_1
  omega
theorem pk_2_1 (T : Nat) (h1 : 1 ≤ T) (h2 : T ≤ ordW 2 1) : pk 2 1 T = true := by
  have e : ordW 2 1 = 2 := by decide
  rw [e] at h2
  by_cases c1 : T = 1
  · subst c1; exact pk_2_1_1
  by_cases c2 : T = 2
  · subst c2; exact pk_2_1_2
  omega
theorem pk_3_0 (T : Nat) (h1 : 1 ≤ T) (h2 : T ≤ ordW 3 0) : pk 3 0 T = true := by
  have e : ordW 3 0 = 1 := by decide
  rw [e] at h2
  by_cases c1 : T = 1
  · subst c1; exact pk_3_0_1
  omega
theorem pk_3_1 (T : Nat) (h1 : 1 ≤ T) (h2 : T ≤ ordW 3 1) : pk 3 1 T = true := by
  have e : ordW 3 1 = 3 := by decide
  rw [e] at h2
  by_cases c1 : T = 1
  · subst c1; exact pk_3_1_1
  by_cases c2 : T = 2
  · subst c2; exact pk_3_1_2
  by_cases c3 : T = 3
  · subst c3; exact pk_3_1_3
  omega
theorem pk_3_2 (T : Nat) (h1 : 1 ≤ T) (h2 : T ≤ ordW 3 2) : pk 3 2 T = true := by
  have e : ordW 3 2 = 3 := by decide
  rw [e] at h2
  by_cases c1 : T = 1
  · subst c1; exact pk_3_2_1
  by_cases c2 : T = 2
  · subst c2; exact pk_3_2_2
  by_cases c3 : T = 3
  · subst c3; exact pk_3_2_3
  omega
theorem pk_4_0 (T : Nat) (h1 : 1 ≤ T) (h2 : T ≤ ordW 4 0) : pk 4 0 T = true := by
  have e : ordW 4 0 = 1 := by decide
  rw [e] at h2
  by_cases c1 : T = 1
  · subst c1; exact pk_4_0_1
  omega
theorem pk_4_1 (T : Nat) (h1 : 1 ≤ T) (h2 : T ≤ ordW 4 1) : pk 4 1 T = true := by
  have e : ordW 4 1 = 4 := by decide
  rw [e] at h2
  by_cases c1 : T = 1
  · subst c1; exact pk_4_1_1
  by_cases c2 : T = 2
  · subst c2; exact pk_4_1_2
  by_cases c3 : T = 3
  · subst c3; exact pk_4_1_3
  by_cases c4 : T = 4
  · subst c4; exact pk_4_1_4
  omega
theorem pk_4_2 (T : Nat) (h1 : 1 ≤ T) (h2 : T ≤ ordW 4 2) : pk 4 2 T = true := by
  have e : ordW 4 2 = 2 := by decide
  rw [e] at h2
  by_cases c1 : T = 1
  · subst c1; exact pk_4_2_1
  by_cases c2 : T = 2
  · subst c2; exact pk_4_2_2
  omega
theorem pk_4_3 (T : Nat) (h1 : 1 ≤ T) (h2 : T ≤ ordW 4 3) : pk 4 3 T = true := by
  have e : ordW 4 3 = 4 := by decide
  rw [e] at h2
  by_cases c1 : T = 1
  · subst c1; exact pk_4_3_1
  by_cases c2 : T = 2
  · subst c2; exact pk_4_3_2
  by_cases c3 : T = 3
  · subst c3; exact pk_4_3_3
  by_cases c4 : T = 4
  · subst c4; exact pk_4_3_4
  omega
theorem pk_5_0 (T : Nat) (h1 : 1 ≤ T) (h2 : T ≤ ordW 5 0) : pk 5 0 T = true := by
  have e : ordW 5 0 = 1 := by decide
  rw [e] at h2
  by_cases c1 : T = 1
  · subst c1; exact pk_5_0_1
  omega
theorem pk_5_1 (T : Nat) (h1 : 1 ≤ T) (h2 : T ≤ ordW 5 1) : pk 5 1 T = true := by
  have e : ordW 5 1 = 5 := by decide
  rw [e] at h2
  by_cases c1 : T = 1
  · subst c1; exact pk_5_1_1
  by_cases c2 : T = 2
  · subst c2; exact pk_5_1_2
  by_cases c3 : T = 3
  · subst c3; exact pk_5_1_3
  by_cases c4 : T = 4
  · subst c4; exact pk_5_1_4
  by_cases c5 : T = 5
  · subst c5; exact pk_5_1_5
  omega
theorem pk_5_2 (T : Nat) (h1 : 1 ≤ T) (h2 : T ≤ ordW 5 2) : pk 5 2 T = true := by
  have e : ordW 5 2 = 5 := by decide
  rw [e] at h2
  by_cases c1 : T = 1
  · subst c1; exact pk_5_2_1
  by_cases c2 : T = 2
  · subst c2; exact pk_5_2_2
  by_cases c3 : T = 3
  · subst c3; exact pk_5_2_3
  by_cases c4 : T = 4
  · subst c4; exact pk_5_2_4
  by_cases c5 : T = 5
  · subst c5; exact pk_5_2_5
  omega
theorem pk_5_3 (T : Nat) (h1 : 1 ≤ T) (h2 : T ≤ ordW 5 3) : pk 5 3 T = true := by
  have e : ordW 5 3 = 5 := by decide
  rw [e] at h2
  by_cases c1 : T = 1
  · subst c1; exact pk_5_3_1
  by_cases c2 : T = 2
  · subst c2; exact pk_5_3_2
  by_cases c3 : T = 3
  · subst c3; exact pk_5_3_3
  by_cases c4 : T = 4
  · subst c4; exact pk_5_3_4
  by_cases c5 : T = 5
  · subst c5; exact pk_5_3_5
  omega
theorem pk_5_4 (T : Nat) (h1 : 1 ≤ T) (h2 : T ≤ ordW 5 4) : pk 5 4 T = true := by
  have e : ordW 5 4 = 5 := by decide
  rw [e] at h2
  by_cases c1 : T = 1
  · subst c1; exact pk_5_4_1
  by_cases c2 : T = 2
  · subst c2; exact pk_5_4_2
  by_cases c3 : T = 3
  · subst c3; exact pk_5_4_3
  by_cases c4 : T = 4
  · subst c4; exact pk_5_4_4
  by_cases c5 : T = 5
  · subst c5; exact pk_5_4_5
  omega
theorem pk_6_0 (T : Nat) (h1 : 1 ≤ T) (h2 : T ≤ ordW 6 0) : pk 6 0 T = true := by
  have e : ordW 6 0 = 1 := by decide
  rw [e] at h2
  by_cases c1 : T = 1
  · subst c1; exact pk_6_0_1
  omega
theorem pk_6_1 (T : Nat) (h1 : 1 ≤ T) (h2 : T ≤ ordW 6 1) : pk 6 1 T = true := by
  have e : ordW 6 1 = 6 := by decide
  rw [e] at h2
  by_cases c1 : T = 1
  · subst c1; exact pk_6_1_1
  by_cases c2 : T = 2
  · subst c2; exact pk_6_1_2
  by_cases c3 : T = 3
  · subst c3; exact pk_6_1_3
  by_cases c4 : T = 4
  · subst c4; exact pk_6_1_4
  by_cases c5 : T = 5
  · subst c5; exact pk_6_1_5
  by_cases c6 : T = 6
  · subst c6; exact pk_6_1_6
  omega
theorem pk_6_2 (T : Nat) (h1 : 1 ≤ T) (h2 : T ≤ ordW 6 2) : pk 6 2 T = true := by
  have e : ordW 6 2 = 3 := by decide
  rw [e] at h2
  by_cases c1 : T = 1
  · subst c1; exact pk_6_2_1
  by_cases c2 : T = 2
  · subst c2; exact pk_6_2_2
  by_cases c3 : T = 3
  · subst c3; exact pk_6_2_3
  omega
theorem pk_6_3 (T : Nat) (h1 : 1 ≤ T) (h2 : T ≤ ordW 6 3) : pk 6 3 T = true := by
  have e : ordW 6 3 = 2 := by decide
  rw [e] at h2
  by_cases c1 : T = 1
  · subst c1; exact pk_6_3_1
  by_cases c2 : T = 2
  · subst c2; exact pk_6_3_2
  omega
theorem pk_6_4 (T : Nat) (h1 : 1 ≤ T) (h2 : T ≤ ordW 6 4) : pk 6 4 T = true := by
  have e : ordW 6 4 = 3 := by decide
  rw [e] at h2
  by_cases c1 : T = 1
  · subst c1; exact pk_6_4_1
  by_cases c2 : T = 2
  · subst c2; exact pk_6_4_2
  by_cases c3 : T = 3
  · subst c3; exact pk_6_4_3
  omega
theorem pk_6_5 (T : Nat) (h1 : 1 ≤ T) (h2 : T ≤ ordW 6 5) : pk 6 5 T = true := by
  have e : ordW 6 5 = 6 := by decide
  rw [e] at h2
  by_cases c1 : T = 1
  · subst c1; exact pk_6_5_1
  by_cases c2 : T = 2
  · subst c2; exact pk_6_5_2
  by_cases c3 : T = 3
  · subst c3; exact pk_6_5_3
  by_cases c4 : T = 4
  · subst c4; exact pk_6_5_4
  by_cases c5 : T = 5
  · subst c5; exact pk_6_5_5
  by_cases c6 : T = 6
  · subst c6; exact pk_6_5_6
  omega
theorem pk_7_0 (T : Nat) (h1 : 1 ≤ T) (h2 : T ≤ ordW 7 0) : pk 7 0 T = true := by
  have e : ordW 7 0 = 1 := by decide
  rw [e] at h2
  by_cases c1 : T = 1
  · subst c1; exact pk_7_0_1
  omega
theorem pk_7_1 (T : Nat) (h1 : 1 ≤ T) (h2 : T ≤ ordW 7 1) : pk 7 1 T = true := by
  have e : ordW 7 1 = 7 := by decide
  rw [e] at h2
  by_cases c1 : T = 1
  · subst c1; exact pk_7_1_1
  by_cases c2 : T = 2
  · subst c2; exact pk_7_1_2
  by_cases c3 : T = 3
  · subst c3; exact pk_7_1_3
  by_cases c4 : T = 4
  · subst c4; exact pk_7_1_4
  by_cases c5 : T = 5
  · subst c5; exact pk_7_1_5
  by_cases c6 : T = 6
  · subst c6; exact pk_7_1_6
  by_cases c7 : T = 7
  · subst c7; exact pk_7_1_7
  omega
theorem pk_7_2 (T : Nat) (h1 : 1 ≤ T) (h2 : T ≤ ordW 7 2) : pk 7 2 T = true := by
  have e : ordW 7 2 = 7 := by decide
  rw [e] at h2
  by_cases c1 : T = 1
  · subst c1; exact pk_7_2_1
  by_cases c2 : T = 2
  · subst c2; exact pk_7_2_2
  by_cases c3 : T = 3
  · subst c3; exact pk_7_2_3
  by_cases c4 : T = 4
  · subst c4; exact pk_7_2_4
  by_cases c5 : T = 5
  · subst c5; exact pk_7_2_5
  by_cases c6 : T = 6
  · subst c6; exact pk_7_2_6
  by_cases c7 : T = 7
  · subst c7; exact pk_7_2_7
  omega
theorem pk_7_3 (T : Nat) (h1 : 1 ≤ T) (h2 : T ≤ ordW 7 3) : pk 7 3 T = true := by
  have e : ordW 7 3 = 7 := by decide
  rw [e] at h2
  by_cases c1 : T = 1
  · subst c1; exact pk_7_3_1
  by_cases c2 : T = 2
  · subst c2; exact pk_7_3_2
  by_cases c3 : T = 3
  · subst c3; exact pk_7_3_3
  by_cases c4 : T = 4
  · subst c4; exact pk_7_3_4
  by_cases c5 : T = 5
  · subst c5; exact pk_7_3_5
  by_cases c6 : T = 6
  · subst c6; exact pk_7_3_6
  by_cases c7 : T = 7
  · subst c7; exact pk_7_3_7
  omega
theorem pk_7_4 (T : Nat) (h1 : 1 ≤ T) (h2 : T ≤ ordW 7 4) : pk 7 4 T = true := by
  have e : ordW 7 4 = 7 := by decide
  rw [e] at h2
  by_cases c1 : T = 1
  · subst c1; exact pk_7_4_1
  by_cases c2 : T = 2
  · subst c2; exact pk_7_4_2
  by_cases c3 : T = 3
  · subst c3; exact pk_7_4_3
  by_cases c4 : T = 4
  · subst c4; exact pk_7_4_4
  by_cases c5 : T = 5
  · subst c5; exact pk_7_4_5
  by_cases c6 : T = 6
  · subst c6; exact pk_7_4_6
  by_cases c7 : T = 7
  · subst c7; exact pk_7_4_7
  omega
theorem pk_7_5 (T : Nat) (h1 : 1 ≤ T) (h2 : T ≤ ordW 7 5) : pk 7 5 T = true := by
  have e : ordW 7 5 = 7 := by decide
  rw [e] at h2
  by_cases c1 : T = 1
  · subst c1; exact pk_7_5_1
  by_cases c2 : T = 2
  · subst c2; exact pk_7_5_2
  by_cases c3 : T = 3
  · subst c3; exact pk_7_5_3
  by_cases c4 : T = 4
  · subst c4; exact pk_7_5_4
  by_cases c5 : T = 5
  · subst c5; exact pk_7_5_5
  by_cases c6 : T = 6
  · subst c6; exact pk_7_5_6
  by_cases c7 : T = 7
  · subst c7; exact pk_7_5_7
  omega
theorem pk_7_6 (T : Nat) (h1 : 1 ≤ T) (h2 : T ≤ ordW 7 6) : pk 7 6 T = true := by
  have e : ordW 7 6 = 7 := by decide
  rw [e] at h2
  by_cases c1 : T = 1
  · subst c1; exact pk_7_6_1
  by_cases c2 : T = 2
  · subst c2; exact pk_7_6_2
  by_cases c3 : T = 3
  · subst c3; exact pk_7_6_3
  by_cases c4 : T = 4
  · subst c4; exact pk_7_6_4
  by_cases c5 : T = 5
  · subst c5; exact pk_7_6_5
  by_cases c6 : T = 6
  · subst c6; exact pk_7_6_6
  by_cases c7 : T = 7
  · subst c7; exact pk_7_6_7
  omega
theorem pk_8_0 (T : Nat) (h1 : 1 ≤ T) (h2 : T ≤ ordW 8 0) : pk 8 0 T = true := by
  have e : ordW 8 0 = 1 := by decide
  rw [e] at h2
  by_cases c1 : T = 1
  · subst c1; exact pk_8_0_1
  omega
theorem pk_8_1 (T : Nat) (h1 : 1 ≤ T) (h2 : T ≤ ordW 8 1) : pk 8 1 T = true := by
  have e : ordW 8 1 = 8 := by decide
  rw [e] at h2
  by_cases c1 : T = 1
  · subst c1; exact pk_8_1_1
  by_cases c2 : T = 2
  · subst c2; exact pk_8_1_2
  by_cases c3 : T = 3
  · subst c3; exact pk_8_1_3
  by_cases c4 : T = 4
  · subst c4; exact pk_8_1_4
  by_cases c5 : T = 5
  · subst c5; exact pk_8_1_5
  by_cases c6 : T = 6
  · subst c6; exact pk_8_1_6
  by_cases c7 : T = 7
  · subst c7; exact pk_8_1_7
  by_cases c8 : T = 8
  · subst c8; exact pk_8_1_8
  omega
theorem pk_8_2 (T : Nat) (h1 : 1 ≤ T) (h2 : T ≤ ordW 8 2) : pk 8 2 T = true := by
  have e : ordW 8 2 = 4 := by decide
  rw [e] at h2
  by_cases c1 : T = 1
  · subst c1; exact pk_8_2_1
  by_cases c2 : T = 2
  · subst c2; exact pk_8_2_2
  by_cases c3 : T = 3
  · subst c3; exact pk_8_2_3
  by_cases c4 : T = 4
  · subst c4; exact pk_8_2_4
  omega
theorem pk_8_3 (T : Nat) (h1 : 1 ≤ T) (h2 : T ≤ ordW 8 3) : pk 8 3 T = true := by
  have e : ordW 8 3 = 8 := by decide
  rw [e] at h2
  by_cases c1 : T = 1
  · subst c1; exact pk_8_3_1
  by_cases c2 : T = 2
  · subst c2; exact pk_8_3_2
  by_cases c3 : T = 3
  · subst c3; exact pk_8_3_3
  by_cases c4 : T = 4
  · subst c4; exact pk_8_3_4
  by_cases c5 : T = 5
  · subst c5; exact pk_8_3_5
  by_cases c6 : T = 6
  · subst c6; exact pk_8_3_6
  by_cases c7 : T = 7
  · subst c7; exact pk_8_3_7
  by_cases c8 : T = 8
  · subst c8; exact pk_8_3_8
  omega
theorem pk_8_4 (T : Nat) (h1 : 1 ≤ T) (h2 : T ≤ ordW 8 4) : pk 8 4 T = true := by
  have e : ordW 8 4 = 2 := by decide
  rw [e] at h2
  by_cases c1 : T = 1
  · subst c1; exact pk_8_4_1
  by_cases c2 : T = 2
  · subst c2; exact pk_8_4_2
  omega
theorem pk_8_5 (T : Nat) (h1 : 1 ≤ T) (h2 : T ≤ ordW 8 5) : pk 8 5 T = true := by
  have e : ordW 8 5 = 8 := by decide
  rw [e] at h2
  by_cases c1 : T = 1
  · subst c1; exact pk_8_5_1
  by_cases c2 : T = 2
  · subst c2; exact pk_8_5_2
  by_cases c3 : T = 3
  · subst c3; exact pk_8_5_3
  by_cases c4 : T = 4
  · subst c4; exact pk_8_5_4
  by_cases c5 : T = 5
  · subst c5; exact pk_8_5_5
  by_cases c6 : T = 6
  · subst c6; exact pk_8_5_6
  by_cases c7 : T = 7
  · subst c7; exact pk_8_5_7
  by_cases c8 : T = 8
  · subst c8; exact pk_8_5_8
  omega
theorem pk_8_6 (T : Nat) (h1 : 1 ≤ T) (h2 : T ≤ ordW 8 6) : pk 8 6 T = true := by
  have e : ordW 8 6 = 4 := by decide
  rw [e] at h2
  by_cases c1 : T = 1
  · subst c1; exact pk_8_6_1
  by_cases c2 : T = 2
  · subst c2; exact pk_8_6_2
  by_cases c3 : T = 3
  · subst c3; exact pk_8_6_3
  by_cases c4 : T = 4
  · subst c4; exact pk_8_6_4
  omega
theorem pk_8_7 (T : Nat) (h1 : 1 ≤ T) (h2 : T ≤ ordW 8 7) : pk 8 7 T = true := by
  have e : ordW 8 7 = 8 := by decide
  rw [e] at h2
  by_cases c1 : T = 1
  · subst c1; exact pk_8_7_1
  by_cases c2 : T = 2
  · subst c2; exact pk_8_7_2
  by_cases c3 : T = 3
  · subst c3; exact pk_8_7_3
  by_cases c4 : T = 4
  · subst c4; exact pk_8_7_4
  by_cases c5 : T = 5
  · subst c5; exact pk_8_7_5
  by_cases c6 : T = 6
  · subst c6; exact pk_8_7_6
  by_cases c7 : T = 7
  · subst c7; exact pk_8_7_7
  by_cases c8 : T = 8
  · subst c8; exact pk_8_7_8
  omega
theorem pk_all (M S T : Nat) (h1 : 1 ≤ M) (h2 : M ≤ 8) (h3 : S < M) (h4 : 1 ≤ T) (h5 : T ≤ ordW M S) : pk M S T = true := by
  by_cases a1 : M = 1
  · subst a1
    by_cases b0 : S = 0
    · subst b0; exact pk_1_0 T h4 h5
    omega
  by_cases a2 : M = 2
  · subst a2
    by_cases b0 : S = 0
    · subst b0; exact pk_2_0 T h4 h5
    by_cases b1 : S = 1
    · subst b1; exact pk_2_1 T h4 h5
    omega
  by_cases a3 : M = 3
  · subst a3
    by_cases b0 : S = 0
    · subst b0; exact pk_3_0 T h4 h5
    by_cases b1 : S = 1
    · subst b1; exact pk_3_1 T h4 h5
    by_cases b2 : S = 2
    · subst b2; exact pk_3_2 T h4 h5
    omega
  by_cases a4 : M = 4
  · subst a4
    by_cases b0 : S = 0
    · subst b0; exact pk_4_0 T h4 h5
    by_cases b1 : S = 1
    · subst b1; exact pk_4_1 T h4 h5
    by_cases b2 : S = 2
    · subst b2; exact pk_4_2 T h4 h5
    by_cases b3 : S = 3
    · subst b3; exact pk_4_3 T h4 h5
    omega
  by_cases a5 : M = 5
  · subst a5
    by_cases b0 : S = 0
    · subst b0; exact pk_5_0 T h4 h5
    by_cases b1 : S = 1
    · subst b1; exact pk_5_1 T h4 h5
    by_cases b2 : S = 2
    · subst b2; exact pk_5_2 T h4 h5
    by_cases b3 : S = 3
    · subst b3; exact pk_5_3 T h4 h5
    by_cases b4 : S = 4
    · subst b4; exact pk_5_4 T h4 h5
    omega
  by_cases a6 : M = 6
  · subst a6
    by_cases b0 : S = 0
    · subst b0; exact pk_6_0 T h4 h5
    by_cases b1 : S = 1
    · subst b1; exact pk_6_1 T h4 h5
    by_cases b2 : S = 2
    · subst b2; exact pk_6_2 T h4 h5
    by_cases b3 : S = 3
    · subst b3; exact pk_6_3 T h4 h5
    by_cases b4 : S = 4
    · subst b4; exact pk_6_4 T h4 h5
    by_cases b5 : S = 5
    · subst b5; exact pk_6_5 T h4 h5
    omega
  by_cases a7 : M = 7
  · subst a7
    by_cases b0 : S = 0
    · subst b0; exact pk_7_0 T h4 h5
    by_cases b1 : S = 1
    · subst b1; exact pk_7_1 T h4 h5
    by_cases b2 : S = 2
    · subst b2; exact pk_7_2 T h4 h5
    by_cases b3 : S = 3
    · subst b3; exact pk_7_3 T h4 h5
    by_cases b4 : S = 4
    · subst b4; exact pk_7_4 T h4 h5
    by_cases b5 : S = 5
    · subst b5; exact pk_7_5 T h4 h5
    by_cases b6 : S = 6
    · subst b6; exact pk_7_6 T h4 h5
    omega
  by_cases a8 : M = 8
  · subst a8
    by_cases b0 : S = 0
    · subst b0; exact pk_8_0 T h4 h5
    by_cases b1 : S = 1
    · subst b1; exact pk_8_1 T h4 h5
    by_cases b2 : S = 2
    · subst b2; exact pk_8_2 T h4 h5
    by_cases b3 : S = 3
    · subst b3; exact pk_8_3 T h4 h5
    by_cases b4 : S = 4
    · subst b4; exact pk_8_4 T h4 h5
    by_cases b5 : S = 5
    · subst b5; exact pk_8_5 T h4 h5
    by_cases b6 : S = 6
    · subst b6; exact pk_8_6 T h4 h5
    by_cases b7 : S = 7
    · subst b7; exact pk_8_7 T h4 h5
    omega
  omega
theorem u8_of {a : Int} (w : (Lit.int .u8 a).wf = true) : ∃ n : Nat, a = n ∧ n < 256 := by
  have h : IntKind.u8.min ≤ a ∧ a ≤ IntKind.u8.max := by simpa [Lit.wf] using w
  have h1 : IntKind.u8.min = 0 := rfl
  have h2 : IntKind.u8.max = 255 := rfl
  exact ⟨a.toNat, by omega, by omega⟩
theorem topSpread_u (a b c : Int) (wa : (Lit.int .u8 a).wf = true) (wb : (Lit.int .u8 b).wf = true) (wc : (Lit.int .u8 c).wf = true) (H : AH) (hg : HasG gs H) : AC Tryd.prog 3 [.int .u8 a, .int .u8 b, .int .u8 c] H fun v _ => v = .bool true := by
  obtain ⟨a, rfl, ha⟩ := u8_of wa
  obtain ⟨b, rfl, hb⟩ := u8_of wb
  obtain ⟨c, rfl, hc⟩ := u8_of wc
  exact topSpread_ac a b c ha hb hc H hg pk_all
end Go.Proofs.YticlfkmjmhjiaaaDoor
