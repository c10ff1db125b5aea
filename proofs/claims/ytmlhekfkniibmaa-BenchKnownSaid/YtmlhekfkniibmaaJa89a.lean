/- Joined texts: Base, Works, Known. -/
import Derived.Test.YtmlhekfkniibmaaChecked
import Derived.Test.YtmlhekfkniibmaaAxQ
import Derived.Test.YtmlhekfkniibmaaAxR
/- What is run, and what is kept between its statements. -/
namespace Go.Proofs.Ytmlhekfkniibmaa
open Go Go.Proofs.Ytmlhekfkniibmaa.AX Go.RowKit
set_option maxRecDepth 100000

def keepT (f : Nat) : List Nat :=
  bif Nat.ble f 55 then bif Nat.ble f 27 then bif Nat.ble f 13 then bif Nat.ble f 6 then bif Nat.ble f 3 then bif Nat.ble f 1 then bif Nat.ble f 0 then [] else [] else bif Nat.ble f 2 then [] else [0, 1, 2, 6, 7, 8, 9, 10, 11, 12, 13, 14, 15, 16, 59] else bif Nat.ble f 5 then bif Nat.ble f 4 then [0, 1, 2, 6, 7, 8, 9, 10, 11, 12, 13, 14] else [0, 2, 3, 4, 5, 6, 7, 8, 9, 10, 13] else [0, 1, 2, 6, 7, 8, 9, 10, 11, 12, 13, 14, 17] else bif Nat.ble f 10 then bif Nat.ble f 8 then bif Nat.ble f 7 then [0, 2, 3, 4, 5, 6, 7, 8, 9, 11, 12, 13, 14, 15, 16, 17, 35, 39, 79, 86] else [0, 1, 4, 5, 6, 7, 8, 9, 10, 11, 12, 13, 14, 15, 16, 17, 18, 19, 20, 21, 23, 69, 70, 71, 72, 73, 125, 131, 132, 133, 134, 143] else bif Nat.ble f 9 then [0, 1, 4, 5, 6, 7, 8, 9, 10, 11, 12, 13, 14, 15, 16, 101, 102, 103, 104, 105, 111] else [0, 1, 4, 5, 6, 7, 8, 9, 10, 11, 12, 13, 14, 15, 16, 17, 18, 19, 38, 76, 77, 78, 79, 92, 125, 126, 127, 128, 129, 139] else bif Nat.ble f 12 then bif Nat.ble f 11 then [0, 1, 2, 6, 7, 8, 9, 10, 11, 12, 13, 14, 15, 16, 17, 18, 19, 20, 21, 22, 24, 33, 34, 35, 41, 68, 71, 72, 73, 82, 112, 117, 118, 119, 120, 134, 158, 160] else [0, 1, 2, 4, 5, 6, 7, 8, 9, 10, 11, 12, 14, 15, 16, 17, 18, 19, 20, 22, 23, 24, 25, 26, 28] else [0, 1, 4, 5, 6, 11] else bif Nat.ble f 20 then bif Nat.ble f 17 then bif Nat.ble f 15 then bif Nat.ble f 14 then [0, 1, 4, 5, 6, 11] else [0, 1, 4, 5, 6, 11] else bif Nat.ble f 16 then [0, 1, 4, 5, 6, 11] else [0, 1, 4, 5, 10, 14, 25] else bif Nat.ble f 19 then bif Nat.ble f 18 then [0, 1, 2, 6, 7, 8, 14] else [0, 1, 2, 6, 7, 8, 20, 22] else [0, 1, 2, 6, 7, 8, 14] else bif Nat.ble f 24 then bif Nat.ble f 22 then bif Nat.ble f 21 then [0, 1, 2, 6, 7, 8, 20, 22] else [0, 1, 2, 3, 4, 5, 6, 7, 8, 9, 10, 11, 12, 13, 14, 15, 16, 62] else bif Nat.ble f 23 then [0, 1, 2, 6, 7, 8, 14] else [0, 1, 2, 6, 7, 8, 9, 10, 22, 24, 31, 45] else bif Nat.ble f 26 then bif Nat.ble f 25 then [0, 2, 3, 6] else [0, 2, 3, 6] else [0, 2, 3, 4, 8] else bif Nat.ble f 41 then bif Nat.ble f 34 then bif Nat.ble f 31 then bif Nat.ble f 29 then bif Nat.ble f 28 then [0, 2, 3, 4, 8] else [0, 2, 3, 4, 5, 6, 10, 19] else bif Nat.ble f 30 then [0, 2, 3, 4, 5, 6, 7, 8, 9, 13, 20, 36, 44] else [0, 2, 3, 4, 8, 9, 10, 11, 12, 20, 26] else bif Nat.ble f 33 then bif Nat.ble f 32 then [0, 2, 3, 7, 11, 22, 31] else [0, 1, 2, 3, 4, 5, 8, 12] else [0, 1, 4, 5, 6, 9, 14, 16, 27] else bif Nat.ble f 38 then bif Nat.ble f 36 then bif Nat.ble f 35 then [0, 1, 2, 3, 4, 5, 6, 11] else [0, 1, 4, 5, 6, 7, 8, 9, 10, 13, 17, 27, 41, 43, 52, 65] else bif Nat.ble f 37 then [0, 2, 3, 4, 5, 8, 18] else [0, 1, 4, 5, 6, 7, 14, 15, 16, 17, 18, 19, 27] else bif Nat.ble f 40 then bif Nat.ble f 39 then [0, 1, 2, 3, 4, 6, 7, 8, 9, 10, 11, 12, 13, 14, 15, 16, 17, 18, 19, 23, 24, 25, 26, 31, 61, 65, 78, 79, 80, 81, 107, 108, 109, 110, 116, 117, 118, 119, 125] else [0, 1, 4] else [0, 2] else bif Nat.ble f 48 then bif Nat.ble f 45 then bif Nat.ble f 43 then bif Nat.ble f 42 then [0, 1, 2, 6, 7, 16] else [0, 2] else bif Nat.ble f 44 then [0, 1, 4, 15] else [0, 1, 4, 5, 6, 10, 11, 12] else bif Nat.ble f 47 then bif Nat.ble f 46 then [0, 1, 4, 12] else [0, 1, 4, 5, 6, 7, 12] else [0, 1, 4] else bif Nat.ble f 52 then bif Nat.ble f 50 then bif Nat.ble f 49 then [0, 1, 2, 6, 7, 12, 17] else [0, 1, 4, 5, 7, 8, 9, 16] else bif Nat.ble f 51 then [0, 1, 2, 6] else [0, 1, 4, 5, 9, 17] else bif Nat.ble f 54 then bif Nat.ble f 53 then [0, 1, 2, 6, 7, 8, 9, 10, 13, 14, 15, 30] else [0, 2, 3, 4, 7] else [0, 1, 4, 5] else bif Nat.ble f 83 then bif Nat.ble f 69 then bif Nat.ble f 62 then bif Nat.ble f 59 then bif Nat.ble f 57 then bif Nat.ble f 56 then [0, 2] else [0, 2, 3, 4, 5, 6, 7] else bif Nat.ble f 58 then [0, 2, 3, 4, 5, 8, 15] else [0, 2, 3, 4, 5, 6, 7, 14, 15, 16, 17] else bif Nat.ble f 61 then bif Nat.ble f 60 then [0, 2, 3, 4, 5, 6, 13] else [0, 2, 3, 4, 5, 6, 7, 8, 9, 10, 11, 12, 13, 28, 34] else [0, 1, 4] else bif Nat.ble f 66 then bif Nat.ble f 64 then bif Nat.ble f 63 then [0, 2, 3, 4, 5, 6, 7, 13] else [0, 1, 2, 4] else bif Nat.ble f 65 then [0, 1, 4, 5, 6, 9, 10, 11, 12, 13, 20, 31] else [0, 1, 2, 4] else bif Nat.ble f 68 then bif Nat.ble f 67 then [0, 1, 2, 6, 7] else [0, 2, 4, 8] else [0, 2, 4, 8, 14] else bif Nat.ble f 76 then bif Nat.ble f 73 then bif Nat.ble f 71 then bif Nat.ble f 70 then [0, 2, 3, 4, 7, 8, 9] else [0, 1, 4, 5, 6] else bif Nat.ble f 72 then [0, 1, 4] else [0, 1, 4, 5, 7, 8, 9, 16] else bif Nat.ble f 75 then bif Nat.ble f 74 then [0, 1, 2, 6] else [0, 1, 4, 5, 10] else [0, 2] else bif Nat.ble f 80 then bif Nat.ble f 78 then bif Nat.ble f 77 then [0, 1, 4, 5, 10, 12, 13, 14, 24] else [0, 2, 3, 9] else bif Nat.ble f 79 then [0, 1, 2, 3, 8, 9, 10, 11, 12, 13, 14, 15, 16, 17, 18, 23, 29, 35, 50, 68, 72, 87, 113] else [0, 1, 2, 6, 7, 12, 30] else bif Nat.ble f 82 then bif Nat.ble f 81 then [0, 1, 2, 6, 7, 8, 9, 10, 19, 30] else [0, 1, 2, 6, 7, 8, 9, 10, 15, 33, 43] else [0, 1, 2, 6, 7, 8, 9, 10, 11, 12, 32, 34, 49, 51, 54] else bif Nat.ble f 97 then bif Nat.ble f 90 then bif Nat.ble f 87 then bif Nat.ble f 85 then bif Nat.ble f 84 then [0, 1, 2, 6, 7, 13] else [0, 1, 2, 6, 7, 8, 9, 10, 14, 32, 37, 41, 61, 65, 78, 98, 103, 116] else bif Nat.ble f 86 then [0, 1, 4] else [0, 1, 2, 3, 8, 9, 10, 43, 59, 64] else bif Nat.ble f 89 then bif Nat.ble f 88 then [0, 1, 2, 3, 8, 9, 10, 11, 43, 60, 65, 112, 129, 134] else [0, 1, 2, 3, 8, 9, 16, 36, 52] else [0, 2] else bif Nat.ble f 94 then bif Nat.ble f 92 then bif Nat.ble f 91 then [0, 2] else [0, 1, 2, 6] else bif Nat.ble f 93 then [0, 1, 2, 3, 4, 10] else [0, 2] else bif Nat.ble f 96 then bif Nat.ble f 95 then [0, 1, 2, 3, 8, 9, 18] else [] else [] else bif Nat.ble f 104 then bif Nat.ble f 101 then bif Nat.ble f 99 then bif Nat.ble f 98 then [] else [] else bif Nat.ble f 100 then [] else [] else bif Nat.ble f 103 then bif Nat.ble f 102 then [] else [] else [] else bif Nat.ble f 108 then bif Nat.ble f 106 then bif Nat.ble f 105 then [] else [] else bif Nat.ble f 107 then [] else [] else bif Nat.ble f 110 then bif Nat.ble f 109 then [] else [] else []

def goodT (f : Nat) : Bool := Nat.ble 3 f && Nat.ble f 95 && !(Nat.beq f 39)

noncomputable def cx : Cx Try.prog where
  good := goodT
  keep := keepT
  ext _ _ _ := none

theorem okAll : (List.range 96).all (fun f => !(Nat.ble 3 f) || okFn Try.prog f) = true := by kernel_rfl
theorem okFn_low {f : Nat} (h3 : 3 ≤ f) (h : f ≤ 95) : okFn Try.prog f = true := by
  have := (List.all_eq_true.1 okAll) f (List.mem_range.2 (by omega))
  have h1 : Nat.ble 3 f = true := Nat.ble_eq_true_of_le h3
  simpa [h1] using this

theorem goodAll : (List.range 96).all (fun f => !goodT f || fnOrd Try.prog f) = true := by kernel_rfl

theorem cx_ok : cx.Ok where
  mixed := by kernel_rfl
  ord f h := by
    have hlt : f < 96 := by
      have h1 : Nat.ble f 95 = true := by
        simp only [cx, goodT, Bool.and_eq_true] at h
        exact h.1.2
      exact Nat.lt_succ_of_le (Nat.le_of_ble_eq_true h1)
    have := (List.all_eq_true.1 goodAll) f (List.mem_range.2 hlt)
    have hg : goodT f = true := h
    rw [hg] at this
    simpa using this
  ext f args H v H' h := by cases h
theorem mixed : Try.prog.follows .mixedOrders = true := by kernel_rfl
end Go.Proofs.Ytmlhekfkniibmaa

/- The examples that each law ends with. -/
namespace Go.Proofs.Ytmlhekfkniibmaa
open Go Go.Proofs.Ytmlhekfkniibmaa.AX
set_option maxRecDepth 100000
theorem works_run : callN (runZ cx 3000) 22 [] [] = some (.bool true, []) := by kernel_rfl
theorem works_ac (H : AH) (Q : AV → AH → Prop) (h : Q (.bool true) H) : AC Try.prog 22 [] H Q := AC_kernZ cx_ok 3000 works_run .nil (.bool _) h
/-- The same context, in which the examples are known. -/
noncomputable def cxw : Cx Try.prog where
  good := goodT
  keep := keepT
  ext f args H := bif Nat.beq f 22 then (match args with | [] => some (.bool true, H) | _ => none) else none
theorem cxw_ok : cxw.Ok where
  mixed := cx_ok.mixed
  ord f h := cx_ok.ord f h
  ext f args H v H' h := by
    simp only [cxw] at h
    cases hf : Nat.beq f 22 with
    | false => rw [hf] at h; cases h
    | true =>
      have := Nat.eq_of_beq_eq_true hf
      subst this
      rw [hf] at h
      cases args with
      | nil => simp at h; obtain ⟨rfl, rfl⟩ := h; exact works_ac _ _ ⟨rfl, rfl⟩
      | cons a l => simp at h
end Go.Proofs.Ytmlhekfkniibmaa

/- The examples of the chapter. -/
namespace Go.Proofs.Ytmlhekfkniibmaa
open Go Go.Proofs.Ytmlhekfkniibmaa.AX
set_option maxRecDepth 100000
theorem known_run : callN (runZ cxw 3000) 12 [] [] = some (.bool true, []) := by kernel_rfl
theorem benchKnown_ac (H : AH) : AC Try.prog 12 [] H fun u _ => u = .bool true := AC_kernZ cxw_ok 3000 known_run .nil (.bool _) rfl
end Go.Proofs.Ytmlhekfkniibmaa
