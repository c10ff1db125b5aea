/- What is run, and what is kept between its statements. -/
import Derived.Test.YtjaefngmidllgaaChecked
import Derived.Test.YtjaefngmidllgaaAxQ
namespace Go.Proofs.Ytjaefngmidllgaa
open Go Go.Proofs.Ytjaefngmidllgaa.AX Go.RowKit
set_option maxRecDepth 100000

def keepT (f : Nat) : List Nat :=
  bif Nat.ble f 56 then bif Nat.ble f 28 then bif Nat.ble f 14 then bif Nat.ble f 7 then bif Nat.ble f 3 then bif Nat.ble f 1 then bif Nat.ble f 0 then [] else [] else bif Nat.ble f 2 then [] else [0, 1, 2, 3, 8, 9, 10, 11, 12, 13, 14, 15, 16, 17, 18, 19, 20, 23, 70] else bif Nat.ble f 5 then bif Nat.ble f 4 then [0, 1, 4, 5, 6, 7, 8, 9, 10, 11, 12, 13, 14, 15, 16, 24] else [0, 1, 4, 5, 6, 7, 8, 9, 10, 11, 12, 13, 14, 15, 16, 17, 18, 21, 67] else bif Nat.ble f 6 then [0, 2, 3, 4, 5, 6, 7, 8] else [0, 1, 2, 3, 5, 6, 7, 8, 9, 10, 11, 12, 43, 44, 45, 46, 48, 49, 50, 76] else bif Nat.ble f 11 then bif Nat.ble f 9 then bif Nat.ble f 8 then [0, 2, 3, 4, 5, 6, 7, 8, 9, 10, 11, 12, 13, 23, 25, 37, 39, 41, 47] else [0, 2, 3, 4, 5, 6, 7, 8, 9, 10, 11, 13, 15, 17, 27, 44] else bif Nat.ble f 10 then [0, 1, 4, 5, 6, 7, 8, 9, 10, 11, 12, 13, 14, 15, 16, 17, 45, 48, 65, 74, 75, 76, 77, 96] else [0, 1, 2, 3, 4, 5, 6, 7, 8, 9, 10, 11, 12, 13, 14, 79, 105, 122] else bif Nat.ble f 13 then bif Nat.ble f 12 then [0, 1, 2, 3, 4, 5, 6, 7, 8, 9, 11, 12, 13, 14, 15, 16, 17, 41, 71] else [0, 1, 2, 3, 5, 6, 7, 8, 9, 10, 11, 12, 13, 14, 15, 16, 17, 40, 42, 43, 44, 46, 47, 48, 68] else [0, 1, 2, 3, 4, 5, 6, 7, 8, 9, 10, 11, 12, 13, 14, 15, 16, 17, 18, 19, 79] else bif Nat.ble f 21 then bif Nat.ble f 18 then bif Nat.ble f 16 then bif Nat.ble f 15 then [0, 1, 2, 3, 4, 5, 6, 7, 8, 9, 10, 11, 12, 13, 14, 15, 16, 17, 18, 19, 20, 82] else [0, 2, 3, 4, 8] else bif Nat.ble f 17 then [0, 2, 3, 4, 8] else [0, 2, 3, 4, 5, 6, 7, 8, 12, 14, 15, 16, 17, 34] else bif Nat.ble f 20 then bif Nat.ble f 19 then [0, 2, 3, 4, 5, 6, 7, 8, 12, 17, 25] else [0, 1, 4, 5, 10, 14, 25] else [0, 2, 3, 4, 6, 10, 12, 13, 14, 15, 19, 22, 25] else bif Nat.ble f 25 then bif Nat.ble f 23 then bif Nat.ble f 22 then [0, 2, 3, 4, 8, 13, 20, 29] else [0, 2, 3, 4, 8] else bif Nat.ble f 24 then [0, 2, 3, 6] else [0, 1, 4, 5, 6, 10, 18] else bif Nat.ble f 27 then bif Nat.ble f 26 then [0, 1, 4, 5, 14] else [0, 1, 4, 5, 6, 7, 8, 9, 10, 11, 15, 24, 28, 29, 30, 54] else [0, 1, 4, 5, 6, 7, 8, 9, 10, 11, 25, 27, 32, 48] else bif Nat.ble f 42 then bif Nat.ble f 35 then bif Nat.ble f 32 then bif Nat.ble f 30 then bif Nat.ble f 29 then [0, 1, 4, 5, 6, 11] else [0, 1, 4, 5, 6, 7, 8, 13, 18, 23, 45] else bif Nat.ble f 31 then [0, 1, 4, 5, 6, 7, 8, 9, 14, 18, 19, 20, 21] else [0, 1, 4, 5, 6, 7, 8, 9, 10, 11, 16, 24, 34, 40, 46, 68] else bif Nat.ble f 34 then bif Nat.ble f 33 then [0, 1, 4, 5, 6, 11] else [0, 1, 4, 5, 6, 7, 8, 13, 18] else [0, 2, 3, 4, 8] else bif Nat.ble f 39 then bif Nat.ble f 37 then bif Nat.ble f 36 then [0, 2, 3, 4, 5, 6, 7, 11] else [0, 2, 3, 4, 5, 6, 7, 8, 12, 17, 20, 21, 22] else bif Nat.ble f 38 then [0, 2, 3, 6] else [0, 2, 3, 4, 8] else bif Nat.ble f 41 then bif Nat.ble f 40 then [0, 2, 3, 4, 8] else [0, 2, 3, 4, 8] else [0, 2, 3, 4, 5, 9] else bif Nat.ble f 49 then bif Nat.ble f 46 then bif Nat.ble f 44 then bif Nat.ble f 43 then [0, 1, 2, 3, 4] else [0, 1, 2, 3, 4, 6, 8, 9, 10, 11, 12, 14, 15, 16, 17, 18, 19, 20, 21, 22, 24, 25, 26, 28, 45, 88, 95, 96, 97, 98, 100, 101, 102, 105, 106, 107, 109, 110, 111, 112, 128, 131, 152, 155, 156, 157, 158] else bif Nat.ble f 45 then [0, 2, 3, 4, 5, 6, 7, 9, 11, 12, 13, 14, 15, 26, 37, 38, 39, 40, 43, 44, 45, 46, 60, 65, 72] else [0, 2] else bif Nat.ble f 48 then bif Nat.ble f 47 then [0, 1, 2, 3, 6, 7, 8] else [0, 2, 3, 4, 6, 7, 9, 10, 11, 12, 17, 28] else [0, 1, 2, 3, 5, 6, 7, 8, 9, 28] else bif Nat.ble f 53 then bif Nat.ble f 51 then bif Nat.ble f 50 then [0, 1, 2, 3, 4, 6, 7, 8, 9, 10, 11, 17] else [0, 1, 4, 5, 6, 19, 25] else bif Nat.ble f 52 then [0, 1, 4, 5, 6, 8, 9, 10, 12, 13, 14, 35] else [0, 1, 2, 3, 4, 5, 6, 43] else bif Nat.ble f 55 then bif Nat.ble f 54 then [0, 2, 4] else [0, 2, 3, 9] else [0, 2] else bif Nat.ble f 84 then bif Nat.ble f 70 then bif Nat.ble f 63 then bif Nat.ble f 60 then bif Nat.ble f 58 then bif Nat.ble f 57 then [0] else [0] else bif Nat.ble f 59 then [0, 2, 5, 8] else [0, 2, 3, 4, 5, 6, 12, 13, 14, 15] else bif Nat.ble f 62 then bif Nat.ble f 61 then [0, 2, 5, 8] else [0, 2, 3, 4, 5, 6, 10, 18, 29] else [0, 1, 4, 6] else bif Nat.ble f 67 then bif Nat.ble f 65 then bif Nat.ble f 64 then [0, 1, 2, 6, 8, 15] else [0, 2, 3, 4, 8] else bif Nat.ble f 66 then [0, 2, 8] else [0, 1, 2, 6] else bif Nat.ble f 69 then bif Nat.ble f 68 then [0, 1, 4, 10, 16] else [0, 1, 4, 5, 6, 10, 15, 21] else [0, 1, 4, 5, 10, 12, 13, 14, 24] else bif Nat.ble f 77 then bif Nat.ble f 74 then bif Nat.ble f 72 then bif Nat.ble f 71 then [0, 1, 4, 5, 6, 11, 12, 13] else [0, 1, 4, 5, 9, 20] else bif Nat.ble f 73 then [0, 1, 2, 6, 7, 8, 9, 10, 11, 17] else [0, 1, 4, 5, 7, 8, 9, 16] else bif Nat.ble f 76 then bif Nat.ble f 75 then [0, 2, 3, 4, 5, 7, 8, 9, 10, 11, 18, 19, 20, 21, 28, 35] else [0, 2, 3, 4, 5, 6, 7, 8, 9, 10, 21] else [0, 2, 3, 4, 5, 6, 7, 8, 14, 20, 59, 85] else bif Nat.ble f 81 then bif Nat.ble f 79 then bif Nat.ble f 78 then [0, 1, 4, 5, 7, 8, 15, 19, 23] else [0, 2, 3, 4, 9, 18] else bif Nat.ble f 80 then [0, 2, 3, 5, 6, 7, 8, 9, 11, 12, 13, 14, 27, 28, 29, 30] else [0, 2, 3, 5, 17] else bif Nat.ble f 83 then bif Nat.ble f 82 then [0, 2, 3, 4, 5, 6, 7, 8, 9, 13, 20, 26, 50] else [0, 2, 3, 4] else [0, 1, 2, 3, 4, 7, 11, 17] else bif Nat.ble f 98 then bif Nat.ble f 91 then bif Nat.ble f 88 then bif Nat.ble f 86 then bif Nat.ble f 85 then [0, 2] else [0, 2, 3, 4, 7, 15] else bif Nat.ble f 87 then [0, 1, 2, 5, 6, 7, 8, 10, 12, 13, 14, 15, 25] else [0, 1, 2, 4, 5, 6, 15] else bif Nat.ble f 90 then bif Nat.ble f 89 then [0, 2, 3, 4, 5, 6, 12, 13, 14, 15] else [0, 2, 3, 4, 5, 9, 17, 28] else [0, 2, 3, 4, 5, 6, 12, 13, 14, 15] else bif Nat.ble f 95 then bif Nat.ble f 93 then bif Nat.ble f 92 then [0, 1, 2, 3, 8, 9, 10, 14, 22] else [0, 1, 4] else bif Nat.ble f 94 then [0, 1, 4, 5, 7, 8, 9, 16] else [0, 1, 2, 3, 4, 5, 6, 15] else bif Nat.ble f 97 then bif Nat.ble f 96 then [0, 1, 2, 3, 4, 5, 6, 15] else [] else [] else bif Nat.ble f 105 then bif Nat.ble f 102 then bif Nat.ble f 100 then bif Nat.ble f 99 then [] else [] else bif Nat.ble f 101 then [] else [] else bif Nat.ble f 104 then bif Nat.ble f 103 then [] else [] else [] else bif Nat.ble f 109 then bif Nat.ble f 107 then bif Nat.ble f 106 then [] else [] else bif Nat.ble f 108 then [] else [] else bif Nat.ble f 111 then bif Nat.ble f 110 then [] else [] else []

def goodT (f : Nat) : Bool := Nat.ble 3 f && Nat.ble f 96 && !(Nat.beq f 84)

noncomputable def cx : Cx Try.prog where
  good := goodT
  keep := keepT
  ext _ _ _ := none

theorem okAll : (List.range 97).all (fun f => !(Nat.ble 3 f) || okFn Try.prog f) = true := by kernel_rfl
theorem okFn_low {f : Nat} (h3 : 3 ≤ f) (h : f ≤ 96) : okFn Try.prog f = true := by
  have := (List.all_eq_true.1 okAll) f (List.mem_range.2 (by omega))
  have h1 : Nat.ble 3 f = true := Nat.ble_eq_true_of_le h3
  simpa [h1] using this

theorem goodAll : (List.range 97).all (fun f => !goodT f || fnOrd Try.prog f) = true := by kernel_rfl

theorem cx_ok : cx.Ok where
  mixed := by kernel_rfl
  ord f h := by
    have hlt : f < 97 := by
      have h1 : Nat.ble f 96 = true := by
        simp only [cx, goodT, Bool.and_eq_true] at h
        exact h.1.2
      exact Nat.lt_succ_of_le (Nat.le_of_ble_eq_true h1)
    have := (List.all_eq_true.1 goodAll) f (List.mem_range.2 hlt)
    have hg : goodT f = true := h
    rw [hg] at this
    simpa using this
  ext f args H v H' h := by cases h
theorem mixed : Try.prog.follows .mixedOrders = true := by kernel_rfl
end Go.Proofs.Ytjaefngmidllgaa
