/- Blends: all cases. -/
import Derived.Test.YtengokpphglodaaDoorTtA
import Derived.Test.YtengokpphglodaaDoorTtB
import Derived.Test.YtengokpphglodaaDoorTtC
import Derived.Test.YtengokpphglodaaDoorTtD
import Derived.Test.YtengokpphglodaaDoorTtE
import Derived.Test.YtengokpphglodaaDoorTtF
import Derived.Test.YtengokpphglodaaDoorTtG
import Derived.Test.YtengokpphglodaaDoorTtH
namespace Go.Proofs.YtengokpphglodaaDoor
open Go Go.Proofs.YtengokpphglodaaDoor.AX

theorem tk_1_0 (x : Nat) (h : x < bin7 1 0) : tk 1 0 x = true := by
  have e : bin7 1 0 = 1 := by decide
  rw [e] at h
  by_cases c0 : x = 0
  · subst c0; exact tk_1_0_0
  omega
theorem tk_1_1 (x : Nat) (h : x < bin7 1 1) : tk 1 1 x = true := by
  have e : bin7 1 1 = 1 := by decide
  rw [e] at h
  by_cases c0 : x = 0
  · subst c0; exact tk_1_1_0
  omega
theorem tk_2_0 (x : Nat) (h : x < bin7 2 0) : tk 2 0 x = true := by
  have e : bin7 2 0 = 1 := by decide
  rw [e] at h
  by_cases c0 : x = 0
  · subst c0; exact tk_2_0_0
  omega
theorem tk_2_1 (x : Nat) (h : x < bin7 2 1) : tk 2 1 x = true := by
  have e : bin7 2 1 = 2 := by decide
  rw [e] at h
  by_cases c0 : x = 0
  · subst c0; exact tk_2_1_0
  by_cases c1 : x = 1
  · subst c1; exact tk_2_1_1
  omega
theorem tk_2_2 (x : Nat) (h : x < bin7 2 2) : tk 2 2 x = true := by
  have e : bin7 2 2 = 1 := by decide
  rw [e] at h
  by_cases c0 : x = 0
  · subst c0; exact tk_2_2_0
  omega
theorem tk_3_0 (x : Nat) (h : x < bin7 3 0) : tk 3 0 x = true := by
  have e : bin7 3 0 = 1 := by decide
  rw [e] at h
  by_cases c0 : x = 0
  · subst c0; exact tk_3_0_0
  omega
theorem tk_3_1 (x : Nat) (h : x < bin7 3 1) : tk 3 1 x = true := by
  have e : bin7 3 1 = 3 := by decide
  rw [e] at h
  by_cases c0 : x = 0
  · subst c0; exact tk_3_1_0
  by_cases c1 : x = 1
  · subst c1; exact tk_3_1_1
  by_cases c2 : x = 2
  · subst c2; exact tk_3_1_2
  omega
theorem tk_3_2 (x : Nat) (h : x < bin7 3 2) : tk 3 2 x = true := by
  have e : bin7 3 2 = 3 := by decide
  rw [e] at h
  by_cases c0 : x = 0
  · subst c0; exact tk_3_2_0
  by_cases c1 : x = 1
  · subst c1; exact tk_3_2_1
  by_cases c2 : x = 2
  · subst c2; exact tk_3_2_2
  omega
theorem tk_3_3 (x : Nat) (h : x < bin7 3 3) : tk 3 3 x = true := by
  have e : bin7 3 3 = 1 := by decide
  rw [e] at h
  by_cases c0 : x = 0
  · subst c0; exact tk_3_3_0
  omega
theorem tk_4_0 (x : Nat) (h : x < bin7 4 0) : tk 4 0 x = true := by
  have e : bin7 4 0 = 1 := by decide
  rw [e] at h
  by_cases c0 : x = 0
  · subst c0; exact tk_4_0_0
  omega
theorem tk_4_1 (x : Nat) (h : x < bin7 4 1) : tk 4 1 x = true := by
  have e : bin7 4 1 = 4 := by decide
  rw [e] at h
  by_cases c0 : x = 0
  · subst c0; exact tk_4_1_0
  by_cases c1 : x = 1
  · subst c1; exact tk_4_1_1
  by_cases c2 : x = 2
  · subst c2; exact tk_4_1_2
  by_cases c3 : x = 3
  · subst c3; exact tk_4_1_3
  omega
theorem tk_4_2 (x : Nat) (h : x < bin7 4 2) : tk 4 2 x = true := by
  have e : bin7 4 2 = 6 := by decide
  rw [e] at h
  by_cases c0 : x = 0
  · subst c0; exact tk_4_2_0
  by_cases c1 : x = 1
  · subst c1; exact tk_4_2_1
  by_cases c2 : x = 2
  · subst c2; exact tk_4_2_2
  by_cases c3 : x = 3
  · subst c3; exact tk_4_2_3
  by_cases c4 : x = 4
  · subst c4; exact tk_4_2_4
  by_cases c5 : x = 5
  · subst c5; exact tk_4_2_5
  omega
theorem tk_4_3 (x : Nat) (h : x < bin7 4 3) : tk 4 3 x = true := by
  have e : bin7 4 3 = 4 := by decide
  rw [e] at h
  by_cases c0 : x = 0
  · subst c0; exact tk_4_3_0
  by_cases c1 : x = 1
  · subst c1; exact tk_4_3_1
  by_cases c2 : x = 2
  · subst c2; exact tk_4_3_2
  by_cases c3 : x = 3
  · subst c3; exact tk_4_3_3
  omega
theorem tk_4_4 (x : Nat) (h : x < bin7 4 4) : tk 4 4 x = true := by
  have e : bin7 4 4 = 1 := by decide
  rw [e] at h
  by_cases c0 : x = 0
  · subst c0; exact tk_4_4_0
  omega
theorem tk_5_0 (x : Nat) (h : x < bin7 5 0) : tk 5 0 x = true := by
  have e : bin7 5 0 = 1 := by decide
  rw [e] at h
  by_cases c0 : x = 0
  · subst c0; exact tk_5_0_0
  omega
theorem tk_5_1 (x : Nat) (h : x < bin7 5 1) : tk 5 1 x = true := by
  have e : bin7 5 1 = 5 := by decide
  rw [e] at h
  by_cases c0 : x = 0
  · subst c0; exact tk_5_1_0
  by_cases c1 : x = 1
  · subst c1; exact tk_5_1_1
  by_cases c2 : x = 2
  · subst c2; exact tk_5_1_2
  by_cases c3 : x = 3
  · subst c3; exact tk_5_1_3
  by_cases c4 : x = 4
  · subst c4; exact tk_5_1_4
  omega
theorem tk_5_2 (x : Nat) (h : x < bin7 5 2) : tk 5 2 x = true := by
  have e : bin7 5 2 = 10 := by decide
  rw [e] at h
  by_cases c0 : x = 0
  · subst c0; exact tk_5_2_0
  by_cases c1 : x = 1
  · subst c1; exact tk_5_2_1
  by_cases c2 : x = 2
  · subst c2; exact tk_5_2_2
  by_cases c3 : x = 3
  · subst c3; exact tk_5_2_3
  by_cases c4 : x = 4
  · subst c4; exact tk_5_2_4
  by_cases c5 : x = 5
  · subst c5; exact tk_5_2_5
  by_cases c6 : x = 6
  · subst c6; exact tk_5_2_6
  by_cases c7 : x = 7
  · subst c7; exact tk_5_2_7
  by_cases c8 : x = 8
  · subst c8; exact tk_5_2_8
  by_cases c9 : x = 9
  · subst c9; exact tk_5_2_9
  omega
theorem tk_5_3 (x : Nat) (h : x < bin7 5 3) : tk 5 3 x = true := by
  have e : bin7 5 3 = 10 := by decide
  rw [e] at h
  by_cases c0 : x = 0
  · subst c0; exact tk_5_3_0
  by_cases c1 : x = 1
  · subst c1; exact tk_5_3_1
  by_cases c2 : x = 2
  · subst c2; exact tk_5_3_2
  by_cases c3 : x = 3
  · subst c3; exact tk_5_3_3
  by_cases c4 : x = 4
  · subst c4; exact tk_5_3_4
  by_cases c5 : x = 5
  · subst c5; exact tk_5_3_5
  by_cases c6 : x = 6
  · subst c6; exact tk_5_3_6
  by_cases c7 : x = 7
  · subst c7; exact tk_5_3_7
  by_cases c8 : x = 8
  · subst c8; exact tk_5_3_8
  by_cases c9 : x = 9
  · subst c9; exact tk_5_3_9
  omega
theorem tk_5_4 (x : Nat) (h : x < bin7 5 4) : tk 5 4 x = true := by
  have e : bin7 5 4 = 5 := by decide
  rw [e] at h
  by_cases c0 : x = 0
  · subst c0; exact tk_5_4_0
  by_cases c1 : x = 1
  · subst c1; exact tk_5_4_1
  by_cases c2 : x = 2
  · subst c2; exact tk_5_4_2
  by_cases c3 : x = 3
  · subst c3; exact tk_5_4_3
  by_cases c4 : x = 4
  · subst c4; exact tk_5_4_4
  omega
theorem tk_5_5 (x : Nat) (h : x < bin7 5 5) : tk 5 5 x = true := by
  have e : bin7 5 5 = 1 := by decide
  rw [e] at h
  by_cases c0 : x = 0
  · subst c0; exact tk_5_5_0
  omega
theorem tk_6_0 (x : Nat) (h : x < bin7 6 0) : tk 6 0 x = true := by
  have e : bin7 6 0 = 1 := by decide
  rw [e] at h
  by_cases c0 : x = 0
  · subst c0; exact tk_6_0_0
  omega
theorem tk_6_1 (x : Nat) (h : x < bin7 6 1) : tk 6 1 x = true := by
  have e : bin7 6 1 = 6 := by decide
  rw [e] at h
  by_cases c0 : x = 0
  · subst c0; exact tk_6_1_0
  by_cases c1 : x = 1
  · subst c1; exact tk_6_1_1
  by_cases c2 : x = 2
  · subst c2; exact tk_6_1_2
  by_cases c3 : x = 3
  · subst c3; exact tk_6_1_3
  by_cases c4 : x = 4
  · subst c4; exact tk_6_1_4
  by_cases c5 : x = 5
  · subst c5; exact tk_6_1_5
  omega
theorem tk_6_2 (x : Nat) (h : x < bin7 6 2) : tk 6 2 x = true := by
  have e : bin7 6 2 = 15 := by decide
  rw [e] at h
  by_cases c0 : x = 0
  · subst c0; exact tk_6_2_0
  by_cases c1 : x = 1
  · subst c1; exact tk_6_2_1
  by_cases c2 : x = 2
  · subst c2; exact tk_6_2_2
  by_cases c3 : x = 3
  · subst c3; exact tk_6_2_3
  by_cases c4 : x = 4
  · subst c4; exact tk_6_2_4
  by_cases c5 : x = 5
  · subst c5; exact tk_6_2_5
  by_cases c6 : x = 6
  · subst c6; exact tk_6_2_6
  by_cases c7 : x = 7
  · subst c7; exact tk_6_2_7
  by_cases c8 : x = 8
  · subst c8; exact tk_6_2_8
  by_cases c9 : x = 9
  · subst c9; exact tk_6_2_9
  by_cases c10 : x = 10
  · subst c10; exact tk_6_2_10
  by_cases c11 : x = 11
  · subst c11; exact tk_6_2_11
  by_cases c12 : x = 12
  · subst c12; exact tk_6_2_12
  by_cases c13 : x = 13
  · subst c13; exact tk_6_2_13
  by_cases c14 : x = 14
  · subst c14; exact tk_6_2_14
  omega
theorem tk_6_3 (x : Nat) (h : x < bin7 6 3) : tk 6 3 x = true := by
  have e : bin7 6 3 = 20 := by decide
  rw [e] at h
  by_cases c0 : x = 0
  · subst c0; exact tk_6_3_0
  by_cases c1 : x = 1
  · subst c1; exact tk_6_3_1
  by_cases c2 : x = 2
  · subst c2; exact tk_6_3_2
  by_cases c3 : x = 3
  · subst c3; exact tk_6_3_3
  by_cases c4 : x = 4
  · subst c4; exact tk_6_3_4
  by_cases c5 : x = 5
  · subst c5; exact tk_6_3_5
  by_cases c6 : x = 6
  · subst c6; exact tk_6_3_6
  by_cases c7 : x = 7
  · subst c7; exact tk_6_3_7
  by_cases c8 : x = 8
  · subst c8; exact tk_6_3_8
  by_cases c9 : x = 9
  · subst c9; exact tk_6_3_9
  by_cases c10 : x = 10
  · subst c10; exact tk_6_3_10
  by_cases c11 : x = 11
  · subst c11; exact tk_6_3_11
  by_cases c12 : x = 12
  · subst c12; exact tk_6_3_12
  by_cases c13 : x = 13
  · subst c13; exact tk_6_3_13
  by_cases c14 : x = 14
  · subst c14; exact tk_6_3_14
  by_cases c15 : x = 15
  · subst c15; exact tk_6_3_15
  by_cases c16 : x = 16
  · subst c16; exact tk_6_3_16
  by_cases c17 : x = 17
  · subst c17; exact tk_6_3_17
  by_cases c18 : x = 18
  · subst c18; exact tk_6_3_18
  by_cases c19 : x = 19
  · subst c19; exact tk_6_3_19
  omega
theorem tk_6_4 (x : Nat) (h : x < bin7 6 4) : tk 6 4 x = true := by
  have e : bin7 6 4 = 15 := by decide
  rw [e] at h
  by_cases c0 : x = 0
  · subst c0; exact tk_6_4_0
  by_cases c1 : x = 1
  · subst c1; exact tk_6_4_1
  by_cases c2 : x = 2
  · subst c2; exact tk_6_4_2
  by_cases c3 : x = 3
  · subst c3; exact tk_6_4_3
  by_cases c4 : x = 4
  · subst c4; exact tk_6_4_4
  by_cases c5 : x = 5
  · subst c5; exact tk_6_4_5
  by_cases c6 : x = 6
  · subst c6; exact tk_6_4_6
  by_cases c7 : x = 7
  · subst c7; exact tk_6_4_7
  by_cases c8 : x = 8
  · subst c8; exact tk_6_4_8
  by_cases c9 : x = 9
  · subst c9; exact tk_6_4_9
  by_cases c10 : x = 10
  · subst c10; exact tk_6_4_10
  by_cases c11 : x = 11
  · subst c11; exact tk_6_4_11
  by_cases c12 : x = 12
  · subst c12; exact tk_6_4_12
  by_cases c13 : x = 13
  · subst c13; exact tk_6_4_13
  by_cases c14 : x = 14
  · subst c14; exact tk_6_4_14
  omega
theorem tk_6_5 (x : Nat) (h : x < bin7 6 5) : tk 6 5 x = true := by
  have e : bin7 6 5 = 6 := by decide
  rw [e] at h
  by_cases c0 : x = 0
  · subst c0; exact tk_6_5_0
  by_cases c1 : x = 1
  · subst c1; exact tk_6_5_1
  by_cases c2 : x = 2
  · subst c2; exact tk_6_5_2
  by_cases c3 : x = 3
  · subst c3; exact tk_6_5_3
  by_cases c4 : x = 4
  · subst c4; exact tk_6_5_4
  by_cases c5 : x = 5
  · subst c5; exact tk_6_5_5
  omega
theorem tk_6_6 (x : Nat) (h : x < bin7 6 6) : tk 6 6 x = true := by
  have e : bin7 6 6 = 1 := by decide
  rw [e] at h
  by_cases c0 : x = 0
  · subst c0; exact tk_6_6_0
  omega
theorem tk_7_0 (x : Nat) (h : x < bin7 7 0) : tk 7 0 x = true := by
  have e : bin7 7 0 = 1 := by decide
  rw [e] at h
  by_cases c0 : x = 0
  · subst c0; exact tk_7_0_0
  omega
theorem tk_7_1 (x : Nat) (h : x < bin7 7 1) : tk 7 1 x = true := by
  have e : bin7 7 1 = 7 := by decide
  rw [e] at h
  by_cases c0 : x = 0
  · subst c0; exact tk_7_1_0
  by_cases c1 : x = 1
  · subst c1; exact tk_7_1_1
  by_cases c2 : x = 2
  · subst c2; exact tk_7_1_2
  by_cases c3 : x = 3
  · subst c3; exact tk_7_1_3
  by_cases c4 : x = 4
  · subst c4; exact tk_7_1_4
  by_cases c5 : x = 5
  · subst c5; exact tk_7_1_5
  by_cases c6 : x = 6
  · subst c6; exact tk_7_1_6
  omega
theorem tk_7_2 (x : Nat) (h : x < bin7 7 2) : tk 7 2 x = true := by
  have e : bin7 7 2 = 21 := by decide
  rw [e] at h
  by_cases c0 : x = 0
  · subst c0; exact tk_7_2_0
  by_cases c1 : x = 1
  · subst c1; exact tk_7_2_1
  by_cases c2 : x = 2
  · subst c2; exact tk_7_2_2
  by_cases c3 : x = 3
  · subst c3; exact tk_7_2_3
  by_cases c4 : x = 4
  · subst c4; exact tk_7_2_4
  by_cases c5 : x = 5
  · subst c5; exact tk_7_2_5
  by_cases c6 : x = 6
  · subst c6; exact tk_7_2_6
  by_cases c7 : x = 7
  · subst c7; exact tk_7_2_7
  by_cases c8 : x = 8
  · subst c8; exact tk_7_2_8
  by_cases c9 : x = 9
  · subst c9; exact tk_7_2_9
  by_cases c10 : x = 10
  · subst c10; exact tk_7_2_10
  by_cases c11 : x = 11
  · subst c11; exact tk_7_2_11
  by_cases c12 : x = 12
  · subst c12; exact tk_7_2_12
  by_cases c13 : x = 13
  · subst c13; exact tk_7_2_13
  by_cases c14 : x = 14
  · subst c14; exact tk_7_2_14
  by_cases c15 : x = 15
  · subst c15; exact tk_7_2_15
  by_cases c16 : x = 16
  · subst c16; exact tk_7_2_16
  by_cases c17 : x = 17
  · subst c17; exact tk_7_2_17
  by_cases c18 : x = 18
  · subst c18; exact tk_7_2_18
  by_cases c19 : x = 19
  · subst c19; exact tk_7_2_19
  by_cases c20 : x = 20
  · subst c20; exact tk_7_2_20
  omega
theorem tk_7_3 (x : Nat) (h : x < bin7 7 3) : tk 7 3 x = true := by
  have e : bin7 7 3 = 35 := by decide
  rw [e] at h
  by_cases c0 : x = 0
  · subst c0; exact tk_7_3_0
  by_cases c1 : x = 1
  · subst c1; exact tk_7_3_1
  by_cases c2 : x = 2
  · subst c2; exact tk_7_3_2
  by_cases c3 : x = 3
  · subst c3; exact tk_7_3_3
  by_cases c4 : x = 4
  · subst c4; exact tk_7_3_4
  by_cases c5 : x = 5
  · subst c5; exact tk_7_3_5
  by_cases c6 : x = 6
  · subst c6; exact tk_7_3_6
  by_cases c7 : x = 7
  · subst c7; exact tk_7_3_7
  by_cases c8 : x = 8
  · subst c8; exact tk_7_3_8
  by_cases c9 : x = 9
  · subst c9; exact tk_7_3_9
  by_cases c10 : x = 10
  · subst c10; exact tk_7_3_10
  by_cases c11 : x = 11
  · subst c11; exact tk_7_3_11
  by_cases c12 : x = 12
  · subst c12; exact tk_7_3_12
  by_cases c13 : x = 13
  · subst c13; exact tk_7_3_13
  by_cases c14 : x = 14
  · subst c14; exact tk_7_3_14
  by_cases c15 : x = 15
  · subst c15; exact tk_7_3_15
  by_cases c16 : x = 16
  · subst c16; exact tk_7_3_16
  by_cases c17 : x = 17
  · subst c17; exact tk_7_3_17
  by_cases c18 : x = 18
  · subst c18; exact tk_7_3_18
  by_cases c19 : x = 19
  · subst c19; exact tk_7_3_19
  by_cases c20 : x = 20
  · subst c20; exact tk_7_3_20
  by_cases c21 : x = 21
  · subst c21; exact tk_7_3_21
  by_cases c22 : x = 22
  · subst c22; exact tk_7_3_22
  by_cases c23 : x = 23
  · subst c23; exact tk_7_3_23
  by_cases c24 : x = 24
  · subst c24; exact tk_7_3_24
  by_cases c25 : x = 25
  · subst c25; exact tk_7_3_25
  by_cases c26 : x = 26
  · subst c26; exact tk_7_3_26
  by_cases c27 : x = 27
  · subst c27; exact tk_7_3_27
  by_cases c28 : x = 28
  · subst c28; exact tk_7_3_28
  by_cases c29 : x = 29
  · subst c29; exact tk_7_3_29
  by_cases c30 : x = 30
  · subst c30; exact tk_7_3_30
  by_cases c31 : x = 31
  · subst c31; exact tk_7_3_31
  by_cases c32 : x = 32
  · subst c32; exact tk_7_3_32
  by_cases c33 : x = 33
  · subst c33; exact tk_7_3_33
  by_cases c34 : x = 34
  · subst c34; exact tk_7_3_34
  omega
theorem tk_7_4 (x : Nat) (h : x < bin7 7 4) : tk 7 4 x = true := by
  have e : bin7 7 4 = 35 := by decide
  rw [e] at h
  by_cases c0 : x = 0
  · subst c0; exact tk_7_4_0
  by_cases c1 : x = 1
  · subst c1; exact tk_7_4_1
  by_cases c2 : x = 2
  · subst c2; exact tk_7_4_2
  by_cases c3 : x = 3
  · subst c3; exact tk_7_4_3
  by_cases c4 : x = 4
  · subst c4; exact tk_7_4_4
  by_cases c5 : x = 5
  · subst c5; exact tk_7_4_5
  by_cases c6 : x = 6
  · subst c6; exact tk_7_4_6
  by_cases c7 : x = 7
  · subst c7; exact tk_7_4_7
  by_cases c8 : x = 8
  · subst c8; exact tk_7_4_8
  by_cases c9 : x = 9
  · subst c9; exact tk_7_4_9
  by_cases c10 : x = 10
  · subst c10; exact tk_7_4_10
  by_cases c11 : x = 11
  · subst c11; exact tk_7_4_11
  by_cases c12 : x = 12
  · subst c12; exact tk_7_4_12
  by_cases c13 : x = 13
  · subst c13; exact tk_7_4_13
  by_cases c14 : x = 14
  · subst c14; exact tk_7_4_14
  by_cases c15 : x = 15
  · subst c15; exact tk_7_4_15
  by_cases c16 : x = 16
  · subst c16; exact tk_7_4_16
  by_cases c17 : x = 17
  · subst c17; exact tk_7_4_17
  by_cases c18 : x = 18
  · subst c18; exact tk_7_4_18
  by_cases c19 : x = 19
  · subst c19; exact tk_7_4_19
  by_cases c20 : x = 20
  · subst c20; exact tk_7_4_20
  by_cases c21 : x = 21
  · subst c21; exact tk_7_4_21
  by_cases c22 : x = 22
  · subst c22; exact tk_7_4_22
  by_cases c23 : x = 23
  · subst c23; exact tk_7_4_23
  by_cases c24 : x = 24
  · subst c24; exact tk_7_4_24
  by_cases c25 : x = 25
  · subst c25; exact tk_7_4_25
  by_cases c26 : x = 26
  · subst c26; exact tk_7_4_26
  by_cases c27 : x = 27
  · subst c27; exact tk_7_4_27
  by_cases c28 : x = 28
  · subst c28; exact tk_7_4_28
  by_cases c29 : x = 29
  · subst c29; exact tk_7_4_29
  by_cases c30 : x = 30
  · subst c30; exact tk_7_4_30
  by_cases c31 : x = 31
  · subst c31; exact tk_7_4_31
  by_cases c32 : x = 32
  · subst c32; exact tk_7_4_32
  by_cases c33 : x = 33
  · subst c33; exact tk_7_4_33
  by_cases c34 : x = 34
  · subst c34; exact tk_7_4_34
  omega
theorem tk_7_5 (x : Nat) (h : x < bin7 7 5) : tk 7 5 x = true := by
  have e : bin7 7 5 = 21 := by decide
  rw [e] at h
  by_cases c0 : x = 0
  · subst c0; exact tk_7_5_0
  by_cases c1 : x = 1
  · subst c1; exact tk_7_5_1
  by_cases c2 : x = 2
  · subst c2; exact tk_7_5_2
  by_cases c3 : x = 3
  · subst c3; exact tk_7_5_3
  by_cases c4 : x = 4
  · subst c4; exact tk_7_5_4
  by_cases c5 : x = 5
  · subst c5; exact tk_7_5_5
  by_cases c6 : x = 6
  · subst c6; exact tk_7_5_6
  by_cases c7 : x = 7
  · subst c7; exact tk_7_5_7
  by_cases c8 : x = 8
  · subst c8; exact tk_7_5_8
  by_cases c9 : x = 9
  · subst c9; exact tk_7_5_9
  by_cases c10 : x = 10
  · subst c10; exact tk_7_5_10
  by_cases c11 : x = 11
  · subst c11; exact tk_7_5_11
  by_cases c12 : x = 12
  · subst c12; exact tk_7_5_12
  by_cases c13 : x = 13
  · subst c13; exact tk_7_5_13
  by_cases c14 : x = 14
  · subst c14; exact tk_7_5_14
  by_cases c15 : x = 15
  · subst c15; exact tk_7_5_15
  by_cases c16 : x = 16
  · subst c16; exact tk_7_5_16
  by_cases c17 : x = 17
  · subst c17; exact tk_7_5_17
  by_cases c18 : x = 18
  · subst c18; exact tk_7_5_18
  by_cases c19 : x = 19
  · subst c19; exact tk_7_5_19
  by_cases c20 : x = 20
  · subst c20; exact tk_7_5_20
  omega
theorem tk_7_6 (x : Nat) (h : x < bin7 7 6) : tk 7 6 x = true := by
  have e : bin7 7 6 = 7 := by decide
  rw [e] at h
  by_cases c0 : x = 0
  · subst c0; exact tk_7_6_0
  by_cases c1 : x = 1
  · subst c1; exact tk_7_6_1
  by_cases c2 : x = 2
  · subst c2; exact tk_7_6_2
  by_cases c3 : x = 3
  · subst c3; exact tk_7_6_3
  by_cases c4 : x = 4
  · subst c4; exact tk_7_6_4
  by_cases c5 : x = 5
  · subst c5; exact tk_7_6_5
  by_cases c6 : x = 6
  · subst c6; exact tk_7_6_6
  omega
theorem tk_7_7 (x : Nat) (h : x < bin7 7 7) : tk 7 7 x = true := by
  have e : bin7 7 7 = 1 := by decide
  rw [e] at h
  by_cases c0 : x = 0
  · subst c0; exact tk_7_7_0
  omega
theorem tk_all (n k x : Nat) (h1 : 1 ≤ n) (h2 : n ≤ 7) (h3 : k ≤ n) (h4 : x < bin7 n k) : tk n k x = true := by
  by_cases a1 : n = 1
  · subst a1
    by_cases b0 : k = 0
    · subst b0; exact tk_1_0 x h4
    by_cases b1 : k = 1
    · subst b1; exact tk_1_1 x h4
    omega
  by_cases a2 : n = 2
  · subst a2
    by_cases b0 : k = 0
    · subst b0; exact tk_2_0 x h4
    by_cases b1 : k = 1
    · subst b1; exact tk_2_1 x h4
    by_cases b2 : k = 2
    · subst b2; exact tk_2_2 x h4
    omega
  by_cases a3 : n = 3
  · subst a3
    by_cases b0 : k = 0
    · subst b0; exact tk_3_0 x h4
    by_cases b1 : k = 1
    · subst b1; exact tk_3_1 x h4
    by_cases b2 : k = 2
    · subst b2; exact tk_3_2 x h4
    by_cases b3 : k = 3
    · subst b3; exact tk_3_3 x h4
    omega
  by_cases a4 : n = 4
  · subst a4
    by_cases b0 : k = 0
    · subst b0; exact tk_4_0 x h4
    by_cases b1 : k = 1
    · subst b1; exact tk_4_1 x h4
    by_cases b2 : k = 2
    · subst b2; exact tk_4_2 x h4
    by_cases b3 : k = 3
    · subst b3; exact tk_4_3 x h4
    by_cases b4 : k = 4
    · subst b4; exact tk_4_4 x h4
    omega
  by_cases a5 : n = 5
  · subst a5
    by_cases b0 : k = 0
    · subst b0; exact tk_5_0 x h4
    by_cases b1 : k = 1
    · subst b1; exact tk_5_1 x h4
    by_cases b2 : k = 2
    · subst b2; exact tk_5_2 x h4
    by_cases b3 : k = 3
    · subst b3; exact tk_5_3 x h4
    by_cases b4 : k = 4
    · subst b4; exact tk_5_4 x h4
    by_cases b5 : k = 5
    · subst b5; exact tk_5_5 x h4
    omega
  by_cases a6 : n = 6
  · subst a6
    by_cases b0 : k = 0
    · subst b0; exact tk_6_0 x h4
    by_cases b1 : k = 1
    · subst b1; exact tk_6_1 x h4
    by_cases b2 : k = 2
    · subst b2; exact tk_6_2 x h4
    by_cases b3 : k = 3
    · subst b3; exact tk_6_3 x h4
    by_cases b4 : k = 4
    · subst b4; exact tk_6_4 x h4
    by_cases b5 : k = 5
    · subst b5; exact tk_6_5 x h4
    by_cases b6 : k = 6
    · subst b6; exact tk_6_6 x h4
    omega
  by_cases a7 : n = 7
  · subst a7
    by_cases b0 : k = 0
    · subst b0; exact tk_7_0 x h4
    by_cases b1 : k = 1
    · subst b1; exact tk_7_1 x h4
    by_cases b2 : k = 2
    · subst b2; exact tk_7_2 x h4
    by_cases b3 : k = 3
    · subst b3; exact tk_7_3 x h4
    by_cases b4 : k = 4
    · subst b4; exact tk_7_4 x h4
    by_cases b5 : k = 5
    · subst b5; exact tk_7_5 x h4
    by_cases b6 : k = 6
    · subst b6; exact tk_7_6 x h4
    by_cases b7 : k = 7
    · subst b7; exact tk_7_7 x h4
    omega
  omega
theorem u8_of {a : Int} (w : (Lit.int .u8 a).wf = true) : ∃ n : Nat, a = n ∧ n < 256 := by
  have h : IntKind.u8.min ≤ a ∧ a ≤ IntKind.u8.max := by simpa [Lit.wf] using w
  have h1 : IntKind.u8.min = 0 := rfl
  have h2 : IntKind.u8.max = 255 := rfl
  exact ⟨a.toNat, by omega, by omega⟩
theorem u16_of {a : Int} (w : (Lit.int .u16 a).wf = true) : ∃ n : Nat, a = n ∧ n < 65536 := by
  have h : IntKind.u16.min ≤ a ∧ a ≤ IntKind.u16.max := by simpa [Lit.wf] using w
  have h1 : IntKind.u16.min = 0 := rfl
  have h2 : IntKind.u16.max = 65535 := rfl
  exact ⟨a.toNat, by omega, by omega⟩
theorem topChosen_u (a b c : Int) (wa : (Lit.int .u8 a).wf = true) (wb : (Lit.int .u8 b).wf = true) (wc : (Lit.int .u16 c).wf = true) (H : AH) (hg : HasG gs H) : AC Tryd.prog 3 [.int .u8 a, .int .u8 b, .int .u16 c] H fun v _ => v = .bool true := by
  obtain ⟨a, rfl, ha⟩ := u8_of wa
  obtain ⟨b, rfl, hb⟩ := u8_of wb
  obtain ⟨c, rfl, hc⟩ := u16_of wc
  exact topChosen_ac a b c ha hb hc H hg tk_all
end Go.Proofs.YtengokpphglodaaDoor
