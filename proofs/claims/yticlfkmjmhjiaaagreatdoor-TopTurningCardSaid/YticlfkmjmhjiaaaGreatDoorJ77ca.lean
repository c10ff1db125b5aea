/- Joined texts: Base, TF, HFacts, HSpan, HPoss, Kern, Works, PPerm, PApp, PSeats, PSrtM, PBox, PSm, PStp, PNb, PAdv, PPub, PRef, PAllR, PPubR, PPubR2, PTurn, PWorks0, PBegins, PSumN, POrdM, POrdA, POrdB, POrdC, WorksZ, WTur. -/
import Derived.Test.YticlfkmjmhjiaaaGreatDoorChecked
import Derived.Test.YticlfkmjmhjiaaaGreatDoorAxQ
import Derived.Test.YticlfkmjmhjiaaaGreatDoorAxR
import Derived.Test.YticlfkmjmhjiaaaGreatDoorAxT
/- What is run, and what is kept between its statements. -/
namespace Go.Proofs.YticlfkmjmhjiaaaGreatDoor
open Go Go.Proofs.YticlfkmjmhjiaaaGreatDoor.AX Go.RowKit
set_option maxRecDepth 100000

def keepT (f : Nat) : List Nat :=
  bif Nat.ble f 74 then bif Nat.ble f 37 then bif Nat.ble f 18 then bif Nat.ble f 9 then bif Nat.ble f 4 then bif Nat.ble f 2 then bif Nat.ble f 1 then bif Nat.ble f 0 then [] else [] else [] else bif Nat.ble f 3 then [0, 1, 4, 5, 6, 7, 8, 9, 10, 11, 12, 13, 14, 15, 16, 17, 18, 19, 21, 36, 66, 69, 95, 117, 118, 119, 120, 121] else [0, 1, 2, 6, 7, 8, 9, 10, 11, 12, 13, 14, 15, 16, 17, 39, 46, 47, 48, 49, 57, 70] else bif Nat.ble f 7 then bif Nat.ble f 6 then bif Nat.ble f 5 then [0, 2, 3, 6] else [0, 1, 4, 5, 6, 7, 8, 21, 22, 23, 24] else [0, 2, 3, 4, 5, 6, 10, 12, 13, 14, 15, 26, 31] else bif Nat.ble f 8 then [0, 2, 3, 4, 5, 6, 10, 15, 27] else [0, 2, 3, 4, 5, 6, 10, 17] else bif Nat.ble f 14 then bif Nat.ble f 12 then bif Nat.ble f 11 then bif Nat.ble f 10 then [0, 2, 3, 4, 5, 6, 7, 9, 13, 18, 19, 20, 21, 28, 29, 30, 31, 36] else [0, 2, 3, 4, 5, 6, 10, 18] else [0, 1, 4, 5, 10, 12, 13, 14, 24] else bif Nat.ble f 13 then [0, 1, 2, 3, 4] else [0, 1, 2, 3, 8, 9, 10, 11, 27] else bif Nat.ble f 16 then bif Nat.ble f 15 then [0, 1, 2, 3, 4, 8] else [0, 1, 2, 3, 4, 6, 7, 8] else bif Nat.ble f 17 then [0, 1, 4, 5, 6, 10] else [0, 2] else bif Nat.ble f 28 then bif Nat.ble f 23 then bif Nat.ble f 21 then bif Nat.ble f 20 then bif Nat.ble f 19 then [0, 2] else [0, 1, 2, 6, 7, 8, 9, 10, 11, 21] else [0, 1, 4] else bif Nat.ble f 22 then [0, 1, 4, 7, 11] else [0, 1, 4] else bif Nat.ble f 26 then bif Nat.ble f 25 then bif Nat.ble f 24 then [0, 2, 3, 4, 5, 7, 8, 9, 14] else [0, 2, 3, 5, 8, 11, 12, 13, 14, 15, 25, 28] else [0, 2, 4] else bif Nat.ble f 27 then [0, 1, 4, 5, 6, 7, 8, 9, 10, 16] else [0, 1, 2, 4] else bif Nat.ble f 33 then bif Nat.ble f 31 then bif Nat.ble f 30 then bif Nat.ble f 29 then [0, 2, 3, 9] else [0, 2] else [0, 1, 2, 3, 4] else bif Nat.ble f 32 then [0, 1, 2, 27, 32] else [0, 1, 2, 3, 4, 5, 6, 7, 16, 17, 18] else bif Nat.ble f 35 then bif Nat.ble f 34 then [0, 2, 3, 5, 9, 11, 12, 13, 14, 22] else [0, 1, 4] else bif Nat.ble f 36 then [0, 2, 3, 5, 6, 7, 8, 9] else [0, 2, 3, 4, 5, 10, 16, 17, 18] else bif Nat.ble f 56 then bif Nat.ble f 47 then bif Nat.ble f 42 then bif Nat.ble f 40 then bif Nat.ble f 39 then bif Nat.ble f 38 then [0, 1, 2, 6, 7, 8, 19, 32] else [0, 2, 3, 5, 6, 8, 9, 10, 11, 12, 20, 25, 26, 27, 28] else [0, 1, 4, 5, 7, 8, 9, 16] else bif Nat.ble f 41 then [0, 1, 2, 3, 4] else [0, 1, 4, 5, 6, 11, 12, 13, 16, 19] else bif Nat.ble f 45 then bif Nat.ble f 44 then bif Nat.ble f 43 then [0, 1, 2, 3, 4, 8] else [0, 1, 4, 5, 6, 8, 9, 10, 11, 15, 20, 21, 22, 23, 24, 33, 37, 52] else [0, 1, 2, 3, 4] else bif Nat.ble f 46 then [0, 1, 2, 4] else [0, 1, 2, 3, 4, 9, 10, 11] else bif Nat.ble f 52 then bif Nat.ble f 50 then bif Nat.ble f 49 then bif Nat.ble f 48 then [0, 1, 2] else [0, 1, 2, 4] else [0, 2, 3, 5, 6, 7, 8, 9] else bif Nat.ble f 51 then [0, 1, 4, 5, 6, 7, 8, 22, 23, 24] else [0, 1, 4, 5, 7, 8, 9, 10, 11, 16] else bif Nat.ble f 54 then bif Nat.ble f 53 then [0, 1, 4, 6, 16] else [0, 1, 2, 4, 8, 22, 28] else bif Nat.ble f 55 then [0, 2] else [0, 2, 8] else bif Nat.ble f 65 then bif Nat.ble f 61 then bif Nat.ble f 59 then bif Nat.ble f 58 then bif Nat.ble f 57 then [0, 1, 2, 6, 7, 8, 9, 13, 14, 15, 16] else [0, 1, 4, 5, 7, 11, 16, 17, 18, 19, 20, 26] else [0, 1, 4] else bif Nat.ble f 60 then [0, 1, 4, 5, 6, 7, 8, 9, 10, 16, 30] else [0, 1, 2, 3, 4] else bif Nat.ble f 63 then bif Nat.ble f 62 then [0, 1, 4, 5, 7] else [0, 1, 4] else bif Nat.ble f 64 then [0, 1, 2, 5] else [0, 1, 3, 8, 18] else bif Nat.ble f 70 then bif Nat.ble f 68 then bif Nat.ble f 67 then bif Nat.ble f 66 then [0, 2, 3] else [0, 1, 2] else [0, 1, 4, 9] else bif Nat.ble f 69 then [0, 1, 4] else [0, 1, 4, 5, 6, 7, 8, 9, 13, 14, 15, 16] else bif Nat.ble f 72 then bif Nat.ble f 71 then [0, 2, 4, 5, 7, 8, 9, 10, 11, 17, 20, 21, 22, 23, 32] else [0, 2, 3, 4, 5, 6, 7, 8, 9] else bif Nat.ble f 73 then [0, 1, 2, 3, 6] else [0, 1, 4, 5, 23] else bif Nat.ble f 111 then bif Nat.ble f 93 then bif Nat.ble f 84 then bif Nat.ble f 79 then bif Nat.ble f 77 then bif Nat.ble f 76 then bif Nat.ble f 75 then [0, 1] else [0, 1, 4, 5, 6, 11] else [0, 1, 3, 4, 5, 6, 7, 8, 9, 10, 15, 20, 26, 27, 28, 29] else bif Nat.ble f 78 then [0, 1, 2, 3, 4, 10, 11, 12, 13, 14, 15, 16, 17, 18, 19, 20, 25, 32, 39, 56, 75, 80, 97, 125] else [0, 2] else bif Nat.ble f 82 then bif Nat.ble f 81 then bif Nat.ble f 80 then [0, 2] else [0, 2] else [0, 1, 4, 5, 6, 7, 8, 14] else bif Nat.ble f 83 then [0, 1, 2, 6, 7, 11, 17] else [0, 2, 3, 5, 7, 8] else bif Nat.ble f 89 then bif Nat.ble f 87 then bif Nat.ble f 86 then bif Nat.ble f 85 then [0, 1, 4, 5, 9, 16] else [0, 1, 4] else [0, 2, 4] else bif Nat.ble f 88 then [0, 1, 2, 6, 15] else [0, 1, 2, 3, 5] else bif Nat.ble f 91 then bif Nat.ble f 90 then [0, 1, 2, 3, 8, 9, 14, 34] else [0, 1, 2, 3, 8, 9, 10, 11, 12, 21, 33] else bif Nat.ble f 92 then [0, 1, 2, 8, 9, 10, 11, 12, 17, 35, 45] else [0, 1, 2, 3, 8, 9, 10, 11, 12, 13, 14, 34, 36, 55, 57, 60] else bif Nat.ble f 102 then bif Nat.ble f 98 then bif Nat.ble f 96 then bif Nat.ble f 95 then bif Nat.ble f 94 then [0, 1, 2, 8, 9, 15] else [0, 1, 2, 3, 8, 9, 10, 11, 12, 16, 36, 41, 45, 65, 69, 84, 104, 109, 124] else [0, 1, 2, 3, 4, 10, 11, 12, 47, 65, 70] else bif Nat.ble f 97 then [0, 1, 2, 3, 4, 10, 11, 12, 13, 47, 66, 71, 120, 139, 144] else [0, 2, 4, 8] else bif Nat.ble f 100 then bif Nat.ble f 99 then [0, 2, 4, 8, 14] else [0, 1, 2, 4, 5, 6, 7] else bif Nat.ble f 101 then [0, 1, 2, 3, 8, 9, 10, 11, 12, 13, 14, 15, 16, 17, 18, 23, 29, 35, 50, 68, 72, 87, 113] else [0, 1, 4] else bif Nat.ble f 107 then bif Nat.ble f 105 then bif Nat.ble f 104 then bif Nat.ble f 103 then [0, 2, 4, 5, 8, 9, 10, 11, 12, 21] else [0, 1, 4, 5, 16] else [0, 1, 2, 3, 4, 10, 11, 18, 40, 58] else bif Nat.ble f 106 then [0, 2] else [0, 2] else bif Nat.ble f 109 then bif Nat.ble f 108 then [0, 1, 2, 3, 8] else [0, 1, 2, 3, 4, 5, 12] else bif Nat.ble f 110 then [0, 1, 2, 6, 7, 12, 30] else [0, 1, 2, 6, 7, 8, 9, 10, 19, 30] else bif Nat.ble f 130 then bif Nat.ble f 121 then bif Nat.ble f 116 then bif Nat.ble f 114 then bif Nat.ble f 113 then bif Nat.ble f 112 then [0, 1, 2, 6, 7, 8, 9, 10, 15, 33, 43] else [0, 1, 2, 6, 7, 8, 9, 10, 11, 12, 32, 34, 49, 51, 54] else [0, 1, 2, 6, 7, 13] else bif Nat.ble f 115 then [0, 1, 2, 6, 7, 8, 9, 10, 14, 32, 37, 41, 61, 65, 78, 98, 103, 116] else [0, 1, 4] else bif Nat.ble f 119 then bif Nat.ble f 118 then bif Nat.ble f 117 then [0, 1, 2, 3, 8, 9, 10, 43, 59, 64] else [0, 1, 2, 3, 8, 9, 10, 11, 43, 60, 65, 112, 129, 134] else [0, 1, 4, 12, 15] else bif Nat.ble f 120 then [0, 1, 2, 3, 6] else [0, 1, 2, 5] else bif Nat.ble f 126 then bif Nat.ble f 124 then bif Nat.ble f 123 then bif Nat.ble f 122 then [0, 1, 2, 3, 4, 10, 11, 22] else [0, 1, 2, 3, 8, 9, 16, 36, 52] else [0, 1, 2, 6] else bif Nat.ble f 125 then [0, 1, 2, 3, 4, 10] else [0, 2] else bif Nat.ble f 128 then bif Nat.ble f 127 then [0, 1, 2, 4, 5, 7, 8, 9, 10, 11, 25] else [0, 1, 2, 3, 8, 9, 18] else bif Nat.ble f 129 then [] else [] else bif Nat.ble f 139 then bif Nat.ble f 135 then bif Nat.ble f 133 then bif Nat.ble f 132 then bif Nat.ble f 131 then [] else [] else [] else bif Nat.ble f 134 then [] else [] else bif Nat.ble f 137 then bif Nat.ble f 136 then [] else [] else bif Nat.ble f 138 then [] else [] else bif Nat.ble f 144 then bif Nat.ble f 142 then bif Nat.ble f 141 then bif Nat.ble f 140 then [] else [] else [] else bif Nat.ble f 143 then [] else [] else bif Nat.ble f 146 then bif Nat.ble f 145 then [0, 1, 2, 4] else [0, 1, 4] else bif Nat.ble f 147 then [0, 1, 4] else []

def goodT (f : Nat) : Bool := Nat.ble 3 f && Nat.ble f 147

noncomputable def cx : Cx Tryz.prog where
  good := goodT
  keep := keepT
  ext _ _ _ := none

theorem okAll : (List.range 129).all (fun f => !(Nat.ble 3 f) || okFn Tryz.prog f) = true := by kernel_rfl
theorem okFn_low {f : Nat} (h3 : 3 ≤ f) (h : f ≤ 128) : okFn Tryz.prog f = true := by
  have := (List.all_eq_true.1 okAll) f (List.mem_range.2 (by omega))
  have h1 : Nat.ble 3 f = true := Nat.ble_eq_true_of_le h3
  simpa [h1] using this

theorem goodAll : (List.range 148).all (fun f => !goodT f || fnOrd Tryz.prog f) = true := by kernel_rfl

theorem cx_ok : cx.Ok where
  mixed := by kernel_rfl
  ord f h := by
    have hlt : f < 148 := by
      have h1 : Nat.ble f 147 = true := by
        simp only [cx, goodT, Bool.and_eq_true] at h
        exact h.2
      exact Nat.lt_succ_of_le (Nat.le_of_ble_eq_true h1)
    have := (List.all_eq_true.1 goodAll) f (List.mem_range.2 hlt)
    have hg : goodT f = true := h
    rw [hg] at this
    simpa using this
  ext f args H v H' h := by cases h
theorem mixed : Tryz.prog.follows .mixedOrders = true := by kernel_rfl
end Go.Proofs.YticlfkmjmhjiaaaGreatDoor

/- What the steps ask of the types of this program. -/
namespace Go.Proofs.YticlfkmjmhjiaaaGreatDoor
open Go Go.Proofs.YticlfkmjmhjiaaaGreatDoor.AX
@[simp] theorem ld3 (H : AH) (r off ver : Nat) : loadV Tryz.prog 3 H (.ptr r off ver) = ld H r off ver := ld_sc (by kernel_rfl) ..
theorem sc3 : scal Tryz.prog 3 = true := by kernel_rfl
theorem zt3 : zeroT Tryz.prog 3 = some [.int .i64 0] := by kernel_rfl
@[simp] theorem ld4 (H : AH) (r off ver : Nat) : loadV Tryz.prog 4 H (.ptr r off ver) = ld H r off ver := ld_sc (by kernel_rfl) ..
theorem sc4 : scal Tryz.prog 4 = true := by kernel_rfl
theorem zt4 : zeroT Tryz.prog 4 = some [.bool false] := by kernel_rfl
@[simp] theorem ld5 (H : AH) (r off ver : Nat) : loadV Tryz.prog 5 H (.ptr r off ver) = ld H r off ver := ld_sc (by kernel_rfl) ..
theorem sc5 : scal Tryz.prog 5 = true := by kernel_rfl
@[simp] theorem ld9 (H : AH) (r off ver : Nat) : loadV Tryz.prog 9 H (.ptr r off ver) = ld H r off ver := ld_sc (by kernel_rfl) ..
theorem sc9 : scal Tryz.prog 9 = true := by kernel_rfl
@[simp] theorem ld26 (H : AH) (r off ver : Nat) : loadV Tryz.prog 26 H (.ptr r off ver) = ld H r off ver := ld_sc (by kernel_rfl) ..
theorem sc26 : scal Tryz.prog 26 = true := by kernel_rfl
theorem slz26 : slSz Tryz.prog 26 = some 1 := by kernel_rfl
@[simp] theorem len26 (r : Option Nat) (off len ver sz : Nat) (full : Bool) : aLen Tryz.prog 26 (.slice r off len ver sz full) = some (.int .i64 len) := len_sl slz26 ..
@[simp] theorem lenp26 (r off len ver sz : Nat) : aLen Tryz.prog 26 (.part r off len ver sz) = some (.int .i64 len) := len_part slz26 ..
@[simp] theorem ixa26 (r off len ver : Nat) (full : Bool) (k : IntKind) (i : Int) : aIndexAddr Tryz.prog 26 (.slice (some r) off len ver 1 full) (.int k i) = if 0 ≤ i ∧ i < len then some (.ptr r (off + i.toNat * 1) ver) else none := ixa_sl slz26 ..
@[simp] theorem ixap26 (r off len ver : Nat) (k : IntKind) (i : Int) : aIndexAddr Tryz.prog 26 (.part r off len ver 1) (.int k i) = if 0 ≤ i ∧ i < len then some (.ptr r (off + i.toNat * 1) ver) else none := ixa_part slz26 ..
theorem el26 : elT Tryz.prog 26 = true := by kernel_rfl
theorem elz26 : elZ Tryz.prog 26 = some (.int .i64 0) := by kernel_rfl
@[simp] theorem row26 (H : AH) (b : Int) : rowV Tryz.prog 26 1 [(0, .int .i64 b)] H = some (some (.slice (some H.length) 0 1 0 1 false), H ++ [.row [.int .i64 b] 0 1 false]) := row1 el26 rfl rfl
theorem zt26 : zeroT Tryz.prog 26 = some [.slice none 0 0 0 1 false] := by kernel_rfl
theorem ag37 : aggSz Tryz.prog 37 = some 3 := by kernel_rfl
@[simp] theorem ld37 (H : AH) (r off ver : Nat) : loadV Tryz.prog 37 H (.ptr r off ver) = (ldn H r ver 3 off).map .agg := load_agg ag37 ..
@[simp] theorem fa37_0 (r off ver : Nat) : aFieldAddr Tryz.prog 37 (.ptr r off ver) 0 = some (.ptr r (off + 0) ver) := fld_ptr (by kernel_rfl) ..
@[simp] theorem fa37_1 (r off ver : Nat) : aFieldAddr Tryz.prog 37 (.ptr r off ver) 1 = some (.ptr r (off + 1) ver) := fld_ptr (by kernel_rfl) ..
@[simp] theorem fa37_2 (r off ver : Nat) : aFieldAddr Tryz.prog 37 (.ptr r off ver) 2 = some (.ptr r (off + 2) ver) := fld_ptr (by kernel_rfl) ..
@[simp] theorem built37 (x0 x1 x2 : Int) : aBuilt Tryz.prog 37 [(0, .int .i64 x0), (1, .int .i64 x1), (2, .int .i64 x2)] = some [.int .i64 x0, .int .i64 x1, .int .i64 x2] := by kernel_rfl
theorem zt37 : zeroT Tryz.prog 37 = some [.int .i64 0, .int .i64 0, .int .i64 0] := by kernel_rfl
@[simp] theorem ld43 (H : AH) (r off ver : Nat) : loadV Tryz.prog 43 H (.ptr r off ver) = ld H r off ver := ld_sc (by kernel_rfl) ..
theorem sc43 : scal Tryz.prog 43 = true := by kernel_rfl
theorem ag55 : aggSz Tryz.prog 55 = some 2 := by kernel_rfl
@[simp] theorem ld55 (H : AH) (r off ver : Nat) : loadV Tryz.prog 55 H (.ptr r off ver) = (ldn H r ver 2 off).map .agg := load_agg ag55 ..
@[simp] theorem fa55_0 (r off ver : Nat) : aFieldAddr Tryz.prog 55 (.ptr r off ver) 0 = some (.ptr r (off + 0) ver) := fld_ptr (by kernel_rfl) ..
@[simp] theorem fa55_1 (r off ver : Nat) : aFieldAddr Tryz.prog 55 (.ptr r off ver) 1 = some (.ptr r (off + 1) ver) := fld_ptr (by kernel_rfl) ..
@[simp] theorem built55 (x0 x1 : Int) : aBuilt Tryz.prog 55 [(0, .int .i64 x0), (1, .int .i64 x1)] = some [.int .i64 x0, .int .i64 x1] := by kernel_rfl
theorem zt55 : zeroT Tryz.prog 55 = some [.int .i64 0, .int .i64 0] := by kernel_rfl
@[simp] theorem ld69 (H : AH) (r off ver : Nat) : loadV Tryz.prog 69 H (.ptr r off ver) = ld H r off ver := ld_sc (by kernel_rfl) ..
theorem sc69 : scal Tryz.prog 69 = true := by kernel_rfl
theorem ar70 : arSz Tryz.prog 70 = some (7, 1) := by kernel_rfl
@[simp] theorem ixa70 (r off ver : Nat) (k : IntKind) (i : Int) : aIndexAddr Tryz.prog 70 (.ptr r off ver) (.int k i) = if 0 ≤ i ∧ i < (7 : Nat) then some (.ptr r (off + i.toNat * 1) ver) else none := ixa_ar ar70 ..
theorem ag70 : aggSz Tryz.prog 70 = some 7 := by kernel_rfl
@[simp] theorem ld70 (H : AH) (r off ver : Nat) : loadV Tryz.prog 70 H (.ptr r off ver) = (ldn H r ver 7 off).map .agg := load_agg ag70 ..
theorem zt70 : zeroT Tryz.prog 70 = some [.bool false, .bool false, .bool false, .bool false, .bool false, .bool false, .bool false] := by kernel_rfl
@[simp] theorem ld75 (H : AH) (r off ver : Nat) : loadV Tryz.prog 75 H (.ptr r off ver) = ld H r off ver := ld_sc (by kernel_rfl) ..
theorem sc75 : scal Tryz.prog 75 = true := by kernel_rfl
theorem slz75 : slSz Tryz.prog 75 = some 1 := by kernel_rfl
@[simp] theorem len75 (r : Option Nat) (off len ver sz : Nat) (full : Bool) : aLen Tryz.prog 75 (.slice r off len ver sz full) = some (.int .i64 len) := len_sl slz75 ..
@[simp] theorem lenp75 (r off len ver sz : Nat) : aLen Tryz.prog 75 (.part r off len ver sz) = some (.int .i64 len) := len_part slz75 ..
@[simp] theorem ixa75 (r off len ver : Nat) (full : Bool) (k : IntKind) (i : Int) : aIndexAddr Tryz.prog 75 (.slice (some r) off len ver 1 full) (.int k i) = if 0 ≤ i ∧ i < len then some (.ptr r (off + i.toNat * 1) ver) else none := ixa_sl slz75 ..
@[simp] theorem ixap75 (r off len ver : Nat) (k : IntKind) (i : Int) : aIndexAddr Tryz.prog 75 (.part r off len ver 1) (.int k i) = if 0 ≤ i ∧ i < len then some (.ptr r (off + i.toNat * 1) ver) else none := ixa_part slz75 ..
theorem el75 : elT Tryz.prog 75 = true := by kernel_rfl
@[simp] theorem ld77 (H : AH) (r off ver : Nat) : loadV Tryz.prog 77 H (.ptr r off ver) = ld H r off ver := ld_sc (by kernel_rfl) ..
theorem sc77 : scal Tryz.prog 77 = true := by kernel_rfl
@[simp] theorem ld88 (H : AH) (r off ver : Nat) : loadV Tryz.prog 88 H (.ptr r off ver) = ld H r off ver := ld_sc (by kernel_rfl) ..
theorem sc88 : scal Tryz.prog 88 = true := by kernel_rfl
theorem ar94 : arSz Tryz.prog 94 = some (7, 1) := by kernel_rfl
@[simp] theorem ixa94 (r off ver : Nat) (k : IntKind) (i : Int) : aIndexAddr Tryz.prog 94 (.ptr r off ver) (.int k i) = if 0 ≤ i ∧ i < (7 : Nat) then some (.ptr r (off + i.toNat * 1) ver) else none := ixa_ar ar94 ..
theorem ag94 : aggSz Tryz.prog 94 = some 7 := by kernel_rfl
@[simp] theorem ld94 (H : AH) (r off ver : Nat) : loadV Tryz.prog 94 H (.ptr r off ver) = (ldn H r ver 7 off).map .agg := load_agg ag94 ..
theorem zt94 : zeroT Tryz.prog 94 = some [.int .i64 0, .int .i64 0, .int .i64 0, .int .i64 0, .int .i64 0, .int .i64 0, .int .i64 0] := by kernel_rfl
theorem ag100 : aggSz Tryz.prog 100 = some 2 := by kernel_rfl
@[simp] theorem ld100 (H : AH) (r off ver : Nat) : loadV Tryz.prog 100 H (.ptr r off ver) = (ldn H r ver 2 off).map .agg := load_agg ag100 ..
@[simp] theorem fa100_0 (r off ver : Nat) : aFieldAddr Tryz.prog 100 (.ptr r off ver) 0 = some (.ptr r (off + 0) ver) := fld_ptr (by kernel_rfl) ..
@[simp] theorem fa100_1 (r off ver : Nat) : aFieldAddr Tryz.prog 100 (.ptr r off ver) 1 = some (.ptr r (off + 1) ver) := fld_ptr (by kernel_rfl) ..
@[simp] theorem built100 (x0 x1 : Int) : aBuilt Tryz.prog 100 [(0, .int .i64 x0), (1, .int .i64 x1)] = some [.int .i64 x0, .int .i64 x1] := by kernel_rfl
theorem zt100 : zeroT Tryz.prog 100 = some [.int .i64 0, .int .i64 0] := by kernel_rfl
@[simp] theorem ld101 (H : AH) (r off ver : Nat) : loadV Tryz.prog 101 H (.ptr r off ver) = ld H r off ver := ld_sc (by kernel_rfl) ..
theorem sc101 : scal Tryz.prog 101 = true := by kernel_rfl
theorem slz101 : slSz Tryz.prog 101 = some 2 := by kernel_rfl
@[simp] theorem len101 (r : Option Nat) (off len ver sz : Nat) (full : Bool) : aLen Tryz.prog 101 (.slice r off len ver sz full) = some (.int .i64 len) := len_sl slz101 ..
@[simp] theorem lenp101 (r off len ver sz : Nat) : aLen Tryz.prog 101 (.part r off len ver sz) = some (.int .i64 len) := len_part slz101 ..
@[simp] theorem ixa101 (r off len ver : Nat) (full : Bool) (k : IntKind) (i : Int) : aIndexAddr Tryz.prog 101 (.slice (some r) off len ver 2 full) (.int k i) = if 0 ≤ i ∧ i < len then some (.ptr r (off + i.toNat * 2) ver) else none := ixa_sl slz101 ..
@[simp] theorem ixap101 (r off len ver : Nat) (k : IntKind) (i : Int) : aIndexAddr Tryz.prog 101 (.part r off len ver 2) (.int k i) = if 0 ≤ i ∧ i < len then some (.ptr r (off + i.toNat * 2) ver) else none := ixa_part slz101 ..
theorem zt101 : zeroT Tryz.prog 101 = some [.slice none 0 0 0 1 false] := by kernel_rfl
@[simp] theorem ld104 (H : AH) (r off ver : Nat) : loadV Tryz.prog 104 H (.ptr r off ver) = ld H r off ver := ld_sc (by kernel_rfl) ..
theorem sc104 : scal Tryz.prog 104 = true := by kernel_rfl
@[simp] theorem ld105 (H : AH) (r off ver : Nat) : loadV Tryz.prog 105 H (.ptr r off ver) = ld H r off ver := ld_sc (by kernel_rfl) ..
theorem sc105 : scal Tryz.prog 105 = true := by kernel_rfl
@[simp] theorem ld107 (H : AH) (r off ver : Nat) : loadV Tryz.prog 107 H (.ptr r off ver) = ld H r off ver := ld_sc (by kernel_rfl) ..
theorem sc107 : scal Tryz.prog 107 = true := by kernel_rfl
@[simp] theorem ld124 (H : AH) (r off ver : Nat) : loadV Tryz.prog 124 H (.ptr r off ver) = ld H r off ver := ld_sc (by kernel_rfl) ..
theorem sc124 : scal Tryz.prog 124 = true := by kernel_rfl
@[simp] theorem ld126 (H : AH) (r off ver : Nat) : loadV Tryz.prog 126 H (.ptr r off ver) = ld H r off ver := ld_sc (by kernel_rfl) ..
theorem sc126 : scal Tryz.prog 126 = true := by kernel_rfl
theorem ag130 : aggSz Tryz.prog 130 = some 1 := by kernel_rfl
@[simp] theorem ld130 (H : AH) (r off ver : Nat) : loadV Tryz.prog 130 H (.ptr r off ver) = (ldn H r ver 1 off).map .agg := load_agg ag130 ..
@[simp] theorem fa130_0 (r off ver : Nat) : aFieldAddr Tryz.prog 130 (.ptr r off ver) 0 = some (.ptr r (off + 0) ver) := fld_ptr (by kernel_rfl) ..
@[simp] theorem built130 (x0 : Int) : aBuilt Tryz.prog 130 [(0, .int .i64 x0)] = some [.int .i64 x0] := by kernel_rfl
theorem zt130 : zeroT Tryz.prog 130 = some [.int .i64 0] := by kernel_rfl
theorem ag135 : aggSz Tryz.prog 135 = some 2 := by kernel_rfl
@[simp] theorem ld135 (H : AH) (r off ver : Nat) : loadV Tryz.prog 135 H (.ptr r off ver) = (ldn H r ver 2 off).map .agg := load_agg ag135 ..
@[simp] theorem fa135_0 (r off ver : Nat) : aFieldAddr Tryz.prog 135 (.ptr r off ver) 0 = some (.ptr r (off + 0) ver) := fld_ptr (by kernel_rfl) ..
@[simp] theorem fa135_1 (r off ver : Nat) : aFieldAddr Tryz.prog 135 (.ptr r off ver) 1 = some (.ptr r (off + 1) ver) := fld_ptr (by kernel_rfl) ..
@[simp] theorem built135 (x0 x1 : Int) : aBuilt Tryz.prog 135 [(0, .int .i64 x0), (1, .int .i64 x1)] = some [.int .i64 x0, .int .i64 x1] := by kernel_rfl
theorem zt135 : zeroT Tryz.prog 135 = some [.int .i64 0, .int .i64 0] := by kernel_rfl
@[simp] theorem ld137 (H : AH) (r off ver : Nat) : loadV Tryz.prog 137 H (.ptr r off ver) = ld H r off ver := ld_sc (by kernel_rfl) ..
theorem sc137 : scal Tryz.prog 137 = true := by kernel_rfl
@[simp] theorem ld141 (H : AH) (r off ver : Nat) : loadV Tryz.prog 141 H (.ptr r off ver) = ld H r off ver := ld_sc (by kernel_rfl) ..
theorem sc141 : scal Tryz.prog 141 = true := by kernel_rfl
@[simp] theorem cv3_104 (k : IntKind) (n : Int) : aConv Tryz.prog 3 104 (.int k n) = some (.int .u64 (IntKind.u64.wrap n)) := cv_int (by kernel_rfl) (by kernel_rfl) n
@[simp] theorem cv3_137 (k : IntKind) (n : Int) : aConv Tryz.prog 3 137 (.int k n) = some (.int .u64 (IntKind.u64.wrap n)) := cv_int (by kernel_rfl) (by kernel_rfl) n
@[simp] theorem cv5_3 (k : IntKind) (n : Int) : aConv Tryz.prog 5 3 (.int k n) = some (.int .i64 (IntKind.i64.wrap n)) := cv_int (by kernel_rfl) (by kernel_rfl) n
@[simp] theorem cv22_3 (k : IntKind) (n : Int) : aConv Tryz.prog 22 3 (.int k n) = some (.int .i64 (IntKind.i64.wrap n)) := cv_int (by kernel_rfl) (by kernel_rfl) n
@[simp] theorem cv104_3 (k : IntKind) (n : Int) : aConv Tryz.prog 104 3 (.int k n) = some (.int .i64 (IntKind.i64.wrap n)) := cv_int (by kernel_rfl) (by kernel_rfl) n
@[simp] theorem cv104_124 (k : IntKind) (n : Int) : aConv Tryz.prog 104 124 (.int k n) = some (.int .u32 (IntKind.u32.wrap n)) := cv_int (by kernel_rfl) (by kernel_rfl) n
@[simp] theorem cv124_5 (k : IntKind) (n : Int) : aConv Tryz.prog 124 5 (.int k n) = some (.int .u8 (IntKind.u8.wrap n)) := cv_int (by kernel_rfl) (by kernel_rfl) n
@[simp] theorem cv126_5 (k : IntKind) (n : Int) : aConv Tryz.prog 126 5 (.int k n) = some (.int .u8 (IntKind.u8.wrap n)) := cv_int (by kernel_rfl) (by kernel_rfl) n
end Go.Proofs.YticlfkmjmhjiaaaGreatDoor

/- What the steps ask of heaps and spans. -/
namespace Go.Proofs.YticlfkmjmhjiaaaGreatDoor
open Go Go.Proofs.YticlfkmjmhjiaaaGreatDoor.AX
theorem pr121 : pairT Tryz.prog 135 = true := by kernel_rfl
/-- Two cells, written and read. -/
def two (a b : Int) : List AV := [.int .i64 a, .int .i64 b]
theorem put121 (H : AH) (a b : Int) : storeV Tryz.prog 135 (H ++ [.row [.int .i64 0, .int .i64 0] 0 0 false]) (.ptr H.length 0 0) (.agg [.int .i64 a, .int .i64 b]) = some (none, H ++ [.row (two a b) 0 0 false]) := by
  rw [store_agg ag135 (c := [.int .i64 0, .int .i64 0]) (s := 0) (by simp) (by decide) rfl (by simp) rfl (by simp [AV.one])]
  simp [two]
theorem put81 (H : AH) (a b : Int) : storeV Tryz.prog 100 (H ++ [.row [.int .i64 0, .int .i64 0] 0 0 false]) (.ptr H.length 0 0) (.agg [.int .i64 a, .int .i64 b]) = some (none, H ++ [.row (two a b) 0 0 false]) := by
  rw [store_agg ag100 (c := [.int .i64 0, .int .i64 0]) (s := 0) (by simp) (by decide) rfl (by simp) rfl (by simp [AV.one])]
  simp [two]
theorem set121 {H : AH} {w : Nat} {a b c d : Int} {s : Nat} (hw : H[w]? = some (.row (two a b) 0 s false)) : storeV Tryz.prog 135 H (.ptr w 0 0) (.agg [.int .i64 c, .int .i64 d]) = some (none, H.set w (.row (two c d) 0 0 false)) :=
  store_agg ag135 hw (by decide) rfl (by simp [two]) rfl (by simp [AV.one])
theorem ldn_two {H : AH} {w s : Nat} {a b : Int} {ro : Bool} (hw : H[w]? = some (.row (two a b) 0 s ro)) : ldn H w 0 2 0 = some [.int .i64 a, .int .i64 b] := by
  rw [ldn_row hw]; rfl
theorem ld_two0 {H : AH} {w s : Nat} {a b : Int} {ro : Bool} (hw : H[w]? = some (.row (two a b) 0 s ro)) : ld H w 0 0 = some (.int .i64 a) := by
  rw [ld_row hw]; rfl
theorem ld_two1 {H : AH} {w s : Nat} {a b : Int} {ro : Bool} (hw : H[w]? = some (.row (two a b) 0 s ro)) : ld H w 1 0 = some (.int .i64 b) := by
  rw [ld_row hw]; rfl
/-- Heaps. -/
def cells (l : List (Int × Int)) : List (List AV) := l.map fun h => two h.1 h.2
@[simp] theorem cells_length (l : List (Int × Int)) : (cells l).length = l.length := by simp [cells]
def Hs (H : AH) (v : AV) (l : List (Int × Int)) : Prop := Rs 2 H v (cells l)
theorem Hs.ext {H H1 : AH} {v : AV} {l : List (Int × Int)} (h : Hs H v l) (hE : Ext H H1) : Hs H1 v l := Rs.ext h hE
theorem Hs.read {H : AH} {v : AV} {l : List (Int × Int)} (h : Hs H v l) : ∃ r off ver sz full, v = .slice r off l.length ver sz full ∧ ∀ i (hi : i < l.length), ∃ r', r = some r' ∧ sz = 2 ∧ ldn H r' ver 2 (off + i * 2) = some [.int .i64 l[i].1, .int .i64 l[i].2] := by
  obtain ⟨r, off, ver, sz, full, rfl, hl⟩ := h
  refine ⟨r, off, ver, sz, full, by simp, fun i hi => ?_⟩
  obtain ⟨r', h1, h2, h3⟩ := hl i (by simpa using hi)
  exact ⟨r', h1, h2, by simpa [cells, two] using h3⟩
end Go.Proofs.YticlfkmjmhjiaaaGreatDoor

/- Spans: how many heaps lie in them, the next one, the first crowded one, and whether there is a plan. -/
namespace Go.Proofs.YticlfkmjmhjiaaaGreatDoor
open Go Go.Proofs.YticlfkmjmhjiaaaGreatDoor.AX

def inS (a b : Int) (h : Int × Int) : Bool := decide (a ≤ h.1) && decide (h.2 ≤ b)
def holdsS (a b : Int) (l : List (Int × Int)) : Nat := l.countP (inS a b)
theorem countP_take_succ {α : Type} (p : α → Bool) (l : List α) {i : Nat} (hi : i < l.length) : (l.take (i + 1)).countP p = (l.take i).countP p + if p l[i] = true then 1 else 0 := by
  rw [List.take_succ_eq_append_getElem hi, List.countP_append]
  simp [List.countP_cons]
set_option maxRecDepth 100000 in
theorem holds_ac (a b : Int) (v : AV) (l : List (Int × Int)) (H : AH) (Q : AV → AH → Prop) (hl : l.length ≤ 1000000) (hv : Hs H v l) (h : ∀ H', Ext H H' → Q (.int .i64 (holdsS a b l : Nat)) H') :
    AC Tryz.prog 127 [.agg [.int .i64 a, .int .i64 b], v] H Q := by
  obtain ⟨r, off, ver, sz, full, rfl, hld⟩ := hv.read
  refine L_body 30 Tryz.func127 rfl rfl ?_
  refine L_reg [1, 2] (fun K hK => ?_)
  simp [AV.isU, acells]
  apply hK; clear hK K
  have hbox : (H ++ [AObj.row (two a b) 0 0 false])[H.length]? = some (.row (two a b) 0 0 false) := by simp
  have hE0 : Ext H (H ++ [AObj.row (two a b) 0 0 false]) := .push _ _
  simp only [two] at hbox hE0
  generalize H ++ [AObj.row [AV.int IntKind.i64 a, AV.int IntKind.i64 b] 0 0 false] = H1 at hbox hE0 ⊢
  generalize H.length = w at hbox ⊢
  refine L_reg [1, 2, 5] (fun K hK => ?_)
  simp
  apply hK; clear hK K
  refine L_reg [2, 5, 8, 9, 10] (fun K hK => ?_)
  simp
  apply hK; clear hK K
  refine L_block (L_loopV [5, 10] (fun k vs H' => ∃ i : Nat, k = l.length - i ∧ i ≤ l.length ∧ vs = [.int .i64 ((l.take i).countP (inS a b) : Nat), .int .i64 i] ∧ Ext H1 H') _ [.int .i64 (0 : Nat), .int .i64 (0 : Nat)] rfl ⟨0, rfl, by omega, by simp, .refl _⟩ ?_)
  rintro k _ H2 ⟨i, rfl, hi, rfl, hE⟩
  have hcl : (l.take i).countP (inS a b) ≤ i := Nat.le_trans List.countP_le_length (by simp; omega)
  refine L_reg [2, 5, 8, 9, 10, 11] (fun K hK => ?_)
  simp
  apply hK; clear hK K
  refine L_dec (i < l.length) (by simp) (fun hlt => ?_) (fun hge => L_exit ?_)
  · obtain ⟨r', rfl, rfl, hrd⟩ := hld i hlt
    have hrd := ldn_ext (hE0.trans hE) hrd
    have hsucc := countP_take_succ (inS a b) l hlt
    generalize l[i] = x at hrd hsucc
    obtain ⟨c, d⟩ := x
    refine L_block ?_
    refine L_reg [2, 5, 7, 8, 9, 10] (fun K hK => ?_)
    simp [hlt, hrd, alloc_z zt100, put81]
    apply hK; clear hK K
    have hbx : (H2 ++ [AObj.row (two c d) 0 0 false])[H2.length]? = some (.row (two c d) 0 0 false) := by simp
    have hE1 : Ext H2 (H2 ++ [AObj.row (two c d) 0 0 false]) := .push _ _
    generalize H2 ++ [AObj.row (two c d) 0 0 false] = H3 at hbx hE1 ⊢
    generalize H2.length = u at hbx ⊢
    have hw3 := hE1.row (hE.row hbox)
    have e1 := ld_two0 hw3
    have e2 := ld_two1 hw3
    have e3 := ld_two0 hbx
    have e4 := ld_two1 hbx
    have hE3 := hE.trans hE1
    by_cases hac : a ≤ c
    · refine L_reg [2, 5, 8, 9, 10, 25] (fun K hK => ?_)
      simp [e1, e2, e3, e4, pickV, hac]
      apply hK; clear hK K
      refine L_dec (d ≤ b) (by simp) (fun hdb => ?_) (fun hdb => ?_)
      · have hin : inS a b (c, d) = true := by simp [inS, hac, hdb]
        rw [if_pos hin] at hsucc
        refine L_reg [2, 5, 8, 9, 10] (fun K hK => ?_)
        simp [wrap_i64 (a := ((List.countP (inS a b) (List.take i l) : Nat) : Int) + 1) (by omega)]
        apply hK; clear hK K
        refine L_reg [2, 5, 8, 9, 10] (fun K hK => ?_)
        simp [wrap_i64 (a := (i : Int) + 1) (by omega)]
        apply hK; clear hK K
        exact ⟨l.length - (i + 1), [.int .i64 ((l.take (i + 1)).countP (inS a b) : Nat), .int .i64 (i + 1 : Nat)], by omega, by simp [hsucc], i + 1, rfl, by omega, rfl, hE3⟩
      · have hin : inS a b (c, d) = false := by simp [inS, hdb]
        rw [if_neg (by rw [hin]; decide)] at hsucc
        refine L_reg [2, 5, 8, 9, 10] (fun K hK => ?_)
        simp [wrap_i64 (a := (i : Int) + 1) (by omega)]
        apply hK; clear hK K
        exact ⟨l.length - (i + 1), [.int .i64 ((l.take (i + 1)).countP (inS a b) : Nat), .int .i64 (i + 1 : Nat)], by omega, by simp [hsucc], i + 1, rfl, by omega, rfl, hE3⟩
    · refine L_reg [2, 5, 8, 9, 10, 25] (fun K hK => ?_)
      simp [e1, e3, pickV, hac]
      apply hK; clear hK K
      refine L_false (by simp) ?_
      have hin : inS a b (c, d) = false := by simp [inS, hac]
      rw [if_neg (by rw [hin]; decide)] at hsucc
      refine L_reg [2, 5, 8, 9, 10] (fun K hK => ?_)
      simp [wrap_i64 (a := (i : Int) + 1) (by omega)]
      apply hK; clear hK K
      exact ⟨l.length - (i + 1), [.int .i64 ((l.take (i + 1)).countP (inS a b) : Nat), .int .i64 (i + 1 : Nat)], by omega, by simp [hsucc], i + 1, rfl, by omega, rfl, hE3⟩
  · have : i = l.length := by omega
    subst this
    refine L_reg [4] (fun K hK => ?_)
    simp
    apply hK; clear hK K
    exact L_ret ⟨.inr rfl, _, rfl, by simpa [holdsS] using h _ (hE0.trans hE)⟩
/-- The span that follows. -/
def nextS (a b : Int) : Int × Int := if b < 23 then (a, b + 1) else (a + 1, a + 1)
set_option maxRecDepth 100000 in
theorem next_acH (a b : Int) (H : AH) (Q : AV → AH → Prop) (ha : -1000 ≤ a ∧ a ≤ 1000) (hb : b ≤ 1000 ∧ -1000 ≤ b) (h : ∀ H', Ext H H' → Q (.agg [.int .i64 (nextS a b).1, .int .i64 (nextS a b).2]) H') : AC Tryz.prog 121 [.agg [.int .i64 a, .int .i64 b]] H Q := by
  obtain ⟨I, hI, hz⟩ := zeroT_some zt135
  refine L_body 19 Tryz.func121 rfl rfl ?_
  refine L_reg [1, 2] (fun K hK => ?_)
  simp [AV.isU, acells, hI, hz]
  apply hK; clear hK K
  have hE : Ext H (H ++ [AObj.row (two a b) 0 0 false, AObj.row (two 0 0) 0 0 false]) := .push _ _
  have h1 : (H ++ [AObj.row (two a b) 0 0 false, AObj.row (two 0 0) 0 0 false])[H.length]? = some (.row (two a b) 0 0 false) := by simp
  have h2 : (H ++ [AObj.row (two a b) 0 0 false, AObj.row (two 0 0) 0 0 false])[H.length + 1]? = some (.row (two 0 0) 0 0 false) := by simp
  simp only [two] at hE h1 h2
  generalize H ++ [AObj.row [AV.int IntKind.i64 a, AV.int IntKind.i64 b] 0 0 false, AObj.row [AV.int IntKind.i64 0, AV.int IntKind.i64 0] 0 0 false] = H1 at hE h1 h2 ⊢
  have e0 := ld_two0 h1
  have e1 := ld_two1 h1
  refine L_reg [1, 2, 5] (fun K hK => ?_)
  simp [e1]
  apply hK; clear hK K
  refine L_dec (b < 23) (by simp) (fun hlt => ?_) (fun hge => ?_)
  · rw [nextS, if_pos hlt] at h
    have hs := set121 (c := a) (d := b + 1) h2
    refine L_reg [2] (fun K hK => ?_)
    simp [e0, e1, wrap_i64 (a := b + 1) (by omega), hs]
    apply hK; clear hK K
    refine L_ret ⟨.inr rfl, _, res_cell rfl ?_, h _ (hE.set _ (by omega))⟩
    simp [ldn_two (get_set h2)]
  · rw [nextS, if_neg hge] at h
    have hs := set121 (c := a + 1) (d := a + 1) h2
    refine L_reg [2] (fun K hK => ?_)
    simp [e0, wrap_i64 (a := a + 1) (by omega), hs]
    apply hK; clear hK K
    refine L_ret ⟨.inr rfl, _, res_cell rfl ?_, h _ (hE.set _ (by omega))⟩
    simp [ldn_two (get_set h2)]
theorem holds_q (a b : Int) (v : AV) (l : List (Int × Int)) (H : AH) (hl : l.length ≤ 1000000) (hv : Hs H v l) (Q : AV → AH → Prop) (h : Q (.int .i64 (holdsS a b l : Nat)) H) : AC Tryz.prog 127 [.agg [.int .i64 a, .int .i64 b], v] H Q :=
  AC.quiet (belB_int _ _ _ _) (fun Q h => holds_ac a b v l H Q hl hv h) Q h
theorem next_q (a b : Int) (H : AH) (ha : -1000 ≤ a ∧ a ≤ 1000) (hb : b ≤ 1000 ∧ -1000 ≤ b) (Q : AV → AH → Prop) (h : Q (.agg [.int .i64 (nextS a b).1, .int .i64 (nextS a b).2]) H) : AC Tryz.prog 121 [.agg [.int .i64 a, .int .i64 b]] H Q :=
  AC.quiet (belB_two _ _ _ _ _ _) (fun Q h => next_acH a b H Q ha hb h) Q h
def crowdedS (a b k : Int) (l : List (Int × Int)) : Bool := decide ((b - a + 1) * k < (holdsS a b l : Nat))
set_option maxRecDepth 100000 in
theorem crowded_ac (a b k : Int) (v : AV) (l : List (Int × Int)) (H : AH) (Q : AV → AH → Prop) (hl : l.length ≤ 1000000) (hv : Hs H v l) (ha : 0 ≤ a ∧ a ≤ 100) (hb : 0 ≤ b ∧ b ≤ 100) (hk : 0 ≤ k ∧ k ≤ 1000)
    (h : ∀ H', Ext H H' → Q (.bool (crowdedS a b k l)) H') : AC Tryz.prog 120 [.agg [.int .i64 a, .int .i64 b], v, .int .i64 k] H Q := by
  refine L_body 19 Tryz.func120 rfl rfl ?_
  refine L_reg [1, 2, 3] (fun K hK => ?_)
  simp [AV.isU, acells]
  apply hK; clear hK K
  have hE : Ext H (H ++ [AObj.row (two a b) 0 0 false]) := .push _ _
  have h1 : (H ++ [AObj.row (two a b) 0 0 false])[H.length]? = some (.row (two a b) 0 0 false) := by simp
  simp only [two] at hE h1
  generalize H ++ [AObj.row [AV.int IntKind.i64 a, AV.int IntKind.i64 b] 0 0 false] = H1 at hE h1 ⊢
  generalize H.length = w at h1 ⊢
  have e0 := ld_two0 h1
  have e1 := ld_two1 h1
  have e2 := ldn_two h1
  have hm1 : (b - a + 1) * k ≤ 101 * 1000 := Int.le_trans (Int.mul_le_mul_of_nonneg_right (show b - a + 1 ≤ 101 by omega) hk.1) (Int.mul_le_mul_of_nonneg_left hk.2 (by decide))
  have hm2 : -100 * 1000 ≤ (b - a + 1) * k := Int.le_trans (by
    have := Int.mul_le_mul_of_nonneg_left hk.2 (show (0 : Int) ≤ 100 by decide)
    omega) (Int.mul_le_mul_of_nonneg_right (show -100 ≤ b - a + 1 by omega) hk.1)
  refine L_regY mixed [6] (by kernel_rfl) (fun K hK => ?_)
  simp [e2, okFn_low]
  refine exX_mk (fun Q hQ => holds_q a b v l H1 hl (hv.ext hE) Q hQ) (.refl _) ?_
  simp [e0, e1, wrap_i64 (a := b - a) (by omega), wrap_i64 (a := b - a + 1) (by omega), wrap_i64 (a := (b - a + 1) * k) (by omega)]
  apply hK; clear hK K
  exact L_ret ⟨.inr rfl, _, rfl, by simpa [crowdedS] using h _ hE⟩
theorem crowded_q (a b k : Int) (v : AV) (l : List (Int × Int)) (H : AH) (hl : l.length ≤ 1000000) (hv : Hs H v l) (ha : 0 ≤ a ∧ a ≤ 100) (hb : 0 ≤ b ∧ b ≤ 100) (hk : 0 ≤ k ∧ k ≤ 1000) (Q : AV → AH → Prop) (h : Q (.bool (crowdedS a b k l)) H) :
    AC Tryz.prog 120 [.agg [.int .i64 a, .int .i64 b], v, .int .i64 k] H Q :=
  AC.quiet (belB_bool _ _ _) (fun Q h => crowded_ac a b k v l H Q hl hv ha hb hk h) Q h
/-- What the package's variable holds. -/
def gs : List (Nat × List AV) := [(0, [.int .i64 24, .int .i64 24])]
theorem gs_load {H : AH} (hg : HasG gs H) : loadV Tryz.prog 135 H (.gptr 0 0) = some (.agg [.int .i64 24, .int .i64 24]) := by
  have : gfind H 0 = some [.int .i64 24, .int .i64 24] := (hg (0, [.int .i64 24, .int .i64 24]) (by simp [gs])).1
  rw [load_gagg ag135, this]
  rfl
def fcS (k : Int) (l : List (Int × Int)) : Nat → Int → Int → Int × Int
  | 0, a, b => (a, b)
  | n + 1, a, b => if ((a == 24 && b == 24) || crowdedS a b k l) = true then (a, b) else fcS k l n (nextS a b).1 (nextS a b).2
def spanM (a b : Int) : Nat := ((24 - a) * 24 + (24 - b)).toNat
/-- A span within the day, or the one behind the last. -/
def okSpan (a b : Int) : Prop := (0 ≤ a ∧ a ≤ b ∧ b ≤ 23) ∨ (a = 24 ∧ b = 24)
theorem next_ok {a b : Int} (h : 0 ≤ a ∧ a ≤ b ∧ b ≤ 23) : okSpan (nextS a b).1 (nextS a b).2 ∧ spanM (nextS a b).1 (nextS a b).2 < spanM a b := by
  unfold nextS okSpan spanM
  split
  · exact ⟨.inl ⟨h.1, by omega, by omega⟩, by omega⟩
  · refine ⟨?_, by omega⟩
    by_cases h24 : a = 23
    · right; omega
    · left; omega
def firstS (k : Int) (l : List (Int × Int)) : Int × Int := fcS k l 601 0 0
set_option maxRecDepth 100000 in
theorem firstCrowded_ac (k : Int) (v : AV) (l : List (Int × Int)) (H : AH) (Q : AV → AH → Prop) (hl : l.length ≤ 1000000) (hv : Hs H v l) (hk : 0 ≤ k ∧ k ≤ 1000) (hg : HasG gs H)
    (h : ∀ H', Ext H H' → Q (.agg [.int .i64 (firstS k l).1, .int .i64 (firstS k l).2]) H') : AC Tryz.prog 104 [v, .int .i64 k] H Q := by
  obtain ⟨I, hI, hz⟩ := zeroT_some zt135
  refine L_body 20 Tryz.func104 rfl rfl ?_
  refine L_reg [0, 1, 4] (fun K hK => ?_)
  simp [hI, hz]
  apply hK; clear hK K
  have hE0 : Ext H (H ++ [AObj.row (two 0 0) 0 0 false]) := .push _ _
  have h0 : (H ++ [AObj.row (two 0 0) 0 0 false])[H.length]? = some (.row (two 0 0) 0 0 false) := by simp
  have hlt0 : H.length < (H ++ [AObj.row (two 0 0) 0 0 false]).length := by simp
  simp only [two] at hE0 h0 hlt0
  generalize H ++ [AObj.row [AV.int IntKind.i64 0, AV.int IntKind.i64 0] 0 0 false] = H1 at hE0 h0 hlt0 ⊢
  generalize hw0 : H.length = w0 at h0 hlt0 ⊢
  refine L_reg [0, 1, 4, 5] (fun K hK => ?_)
  simp [hI, hz, put121]
  apply hK; clear hK K
  have hE1 : Ext H1 (H1 ++ [AObj.row (two 0 0) 0 0 false]) := .push _ _
  have h1 : (H1 ++ [AObj.row (two 0 0) 0 0 false])[H1.length]? = some (.row (two 0 0) 0 0 false) := by simp
  generalize H1 ++ [AObj.row (two 0 0) 0 0 false] = H2 at hE1 h1 ⊢
  generalize hw1 : H1.length = w1 at h1 hlt0 ⊢
  have hE2 := hE0.trans hE1
  have h02 := hE1.row h0
  refine L_block (L_loopV [] (fun m vs H' => ∃ (a b : Int) (n : Nat), m = spanM a b ∧ okSpan a b ∧ spanM a b < n ∧ firstS k l = fcS k l n a b ∧ vs = [] ∧ Ext H H' ∧ H'[w0]? = some (.row (two 0 0) 0 0 false) ∧ H'[w1]? = some (.row (two a b) 0 0 false)) _ [] rfl
    ⟨0, 0, 601, rfl, .inl (by omega), by decide, rfl, rfl, hE2, h02, h1⟩ ?_)
  rintro m _ H3 ⟨a, b, n, rfl, hab, hn, hfc, rfl, hE, h03, h13⟩
  have hab' : 0 ≤ a ∧ a ≤ 24 ∧ 0 ≤ b ∧ b ≤ 24 := by rcases hab with h | h <;> omega
  have e1 := ldn_two h13
  have eg := gs_load (hg.ext hE)
  cases n with
  | zero => omega
  | succ n =>
  have hstep : firstS k l = if ((a == 24 && b == 24) || crowdedS a b k l) = true then (a, b) else fcS k l n (nextS a b).1 (nextS a b).2 := hfc
  by_cases hp : a = 24 ∧ b = 24
  · obtain ⟨rfl, rfl⟩ := hp
    refine L_reg [0, 1, 4, 5, 16] (fun K hK => ?_)
    simp [e1, eg, b_neP pr121, pickV]
    apply hK; clear hK K
    refine L_false (by simp) (L_exit ?_)
    simp at hstep
    have hst := set121 (c := 24) (d := 24) h03
    refine L_reg [4] (fun K hK => ?_)
    simp [e1, hst]
    apply hK; clear hK K
    refine L_ret ⟨.inr rfl, _, res_cell rfl ?_, h _ (hE.set _ (by omega))⟩
    rw [hstep]
    simp [ldn_two (get_set h03)]
  · have hne : (a == 24 && b == 24) = false := by
      rw [Bool.and_eq_false_iff]
      by_cases ha : a = 24
      · right; simp; omega
      · left; simp [ha]
    have hnn : (a == (24 : Int) && b == 24) = false := hne
    rw [hne, Bool.false_or] at hstep
    refine L_reg [0, 1, 4, 5, 16] (fun K hK => ?_)
    simp [e1, eg, b_neP pr121, hne, okFn_low]
    refine crowded_q a b k v l H3 hl (hv.ext hE) (by omega) (by omega) hk _ ?_
    simp [pickV]
    apply hK; clear hK K
    cases hc : crowdedS a b k l with
    | true =>
      rw [hc] at hstep
      refine L_false (by simp) (L_exit ?_)
      simp at hstep
      have hst := set121 (c := a) (d := b) h03
      refine L_reg [4] (fun K hK => ?_)
      simp [e1, hst]
      apply hK; clear hK K
      refine L_ret ⟨.inr rfl, _, res_cell rfl ?_, h _ (hE.set _ (by omega))⟩
      rw [hstep]
      simp [ldn_two (get_set h03)]
    | false =>
      rw [hc] at hstep
      simp only [Bool.false_eq_true, if_false] at hstep
      have hin : 0 ≤ a ∧ a ≤ b ∧ b ≤ 23 := by
        rcases hab with h | h
        · exact h
        · exact absurd h hp
      obtain ⟨g1, g2⟩ := next_ok hin
      refine L_true (by simp) (L_block ?_)
      have hst := set121 (c := (nextS a b).1) (d := (nextS a b).2) h13
      refine L_reg [0, 1, 4, 5] (fun K hK => ?_)
      simp [e1, okFn_low]
      refine next_q a b H3 (by omega) (by omega) _ ?_
      simp [hst]
      apply hK; clear hK K
      refine ⟨spanM (nextS a b).1 (nextS a b).2, [], g2, by simp, _, _, n, rfl, g1, by omega, hstep, rfl, hE.set _ (by omega), ?_, get_set h13⟩
      rw [List.getElem?_set_ne (by omega)]; exact h03
theorem firstCrowded_q (k : Int) (v : AV) (l : List (Int × Int)) (H : AH) (hl : l.length ≤ 1000000) (hv : Hs H v l) (hk : 0 ≤ k ∧ k ≤ 1000) (hg : HasG gs H) (Q : AV → AH → Prop) (h : Q (.agg [.int .i64 (firstS k l).1, .int .i64 (firstS k l).2]) H) :
    AC Tryz.prog 104 [v, .int .i64 k] H Q := AC.quiet (belB_two _ _ _ _ _ _) (fun Q h => firstCrowded_ac k v l H Q hl hv hk hg h) Q h
/-- Whether there is a plan, as the program asks it. -/
def possS (k : Int) (l : List (Int × Int)) : Bool := (firstS k l).1 == 24 && (firstS k l).2 == 24
theorem possible_ac (k : Int) (v : AV) (l : List (Int × Int)) (H : AH) (Q : AV → AH → Prop) (hl : l.length ≤ 1000000) (hv : Hs H v l) (hk : 0 ≤ k ∧ k ≤ 1000) (hg : HasG gs H) (h : Q (.bool (possS k l)) H) : AC Tryz.prog 86 [v, .int .i64 k] H Q := by
  refine L_body 10 Tryz.func86 rfl rfl ?_
  refine L_reg [0, 1] (fun K hK => ?_)
  simp
  apply hK; clear hK K
  have eg := gs_load hg
  refine L_regY mixed [4] (by kernel_rfl) (fun K hK => ?_)
  simp [okFn_low]
  refine exX_mk (fun Q hQ => firstCrowded_q k v l H hl hv hk hg Q hQ) (.refl _) ?_
  simp [eg, b_eqP pr121]
  apply hK; clear hK K
  exact L_ret ⟨.inr rfl, _, rfl, by simpa [possS] using h⟩
end Go.Proofs.YticlfkmjmhjiaaaGreatDoor

/- Whether there is a plan: no span is crowded; a quick reckoning; the examples that each law ends with. -/
namespace Go.Proofs.YticlfkmjmhjiaaaGreatDoor
open Go Go.Proofs.YticlfkmjmhjiaaaGreatDoor.AX

theorem fcS_iff (k : Int) (l : List (Int × Int)) : ∀ (n : Nat) (a b : Int), okSpan a b → spanM a b < n →
    (fcS k l n a b = (24, 24) ↔ ∀ a' b' : Int, 0 ≤ a' → a' ≤ b' → b' ≤ 23 → (a < a' ∨ a = a' ∧ b ≤ b') → crowdedS a' b' k l = false)
  | 0, a, b, _, h => by omega
  | n + 1, a, b, hab, hn => by
    unfold fcS
    rcases hab with hin | ⟨rfl, rfl⟩
    · have hne : (a == 24 && b == 24) = false := by
        rw [Bool.and_eq_false_iff]; left; simp; omega
      rw [hne, Bool.false_or]
      obtain ⟨g1, g2⟩ := next_ok hin
      cases hc : crowdedS a b k l with
      | true =>
        rw [if_pos rfl]
        constructor
        · intro h; cases h; omega
        · intro h
          have := h a b hin.1 hin.2.1 hin.2.2 (.inr ⟨rfl, by omega⟩)
          rw [hc] at this; cases this
      | false =>
        rw [if_neg (by decide), fcS_iff k l n _ _ g1 (by omega)]
        constructor
        · intro h a' b' h1 h2 h3 h4
          by_cases he : a' = a ∧ b' = b
          · rw [he.1, he.2]; exact hc
          · refine h a' b' h1 h2 h3 ?_
            unfold nextS
            split
            · rcases h4 with h4 | h4
              · exact .inl h4
              · exact .inr ⟨h4.1, by simp only; omega⟩
            · simp only; omega
        · intro h a' b' h1 h2 h3 h4
          refine h a' b' h1 h2 h3 ?_
          unfold nextS at h4
          split at h4
          · simp only at h4; omega
          · simp only at h4; omega
    · simp
      intro a' b' h1 h2 h3 h4
      omega
theorem possS_iff (k : Int) (l : List (Int × Int)) : possS k l = true ↔ ∀ a b : Int, 0 ≤ a → a ≤ b → b ≤ 23 → crowdedS a b k l = false := by
  have h := fcS_iff k l 601 0 0 (.inl (by omega)) (by decide)
  have e : possS k l = true ↔ firstS k l = (24, 24) := by
    unfold possS
    rw [Bool.and_eq_true, beq_iff_eq, beq_iff_eq]
    constructor
    · rintro ⟨h1, h2⟩; rw [← h1]; exact Prod.ext rfl (by simp [h1, h2])
    · intro h; rw [h]; exact ⟨rfl, rfl⟩
  rw [e]
  refine h.trans ⟨fun g a b h1 h2 h3 => g a b h1 h2 h3 (by omega), fun g a b h1 h2 h3 _ => g a b h1 h2 h3⟩
/-! ### A quick reckoning -/
noncomputable def cntNH (a b : Nat) (l : List (Nat × Nat)) : Nat := List.rec 0 (fun h _ ih => bif Nat.ble a h.1 then bif Nat.ble h.2 b then Nat.succ ih else ih else ih) l
def natL (l : List (Nat × Nat)) : List (Int × Int) := l.map fun h => ((h.1 : Int), (h.2 : Int))
theorem cntN_eq (a b : Nat) : ∀ l : List (Nat × Nat), cntNH a b l = holdsS a b (natL l)
  | [] => rfl
  | h :: l => by
    have ih := cntN_eq a b l
    have e : cntNH a b (h :: l) = bif Nat.ble a h.1 then bif Nat.ble h.2 b then Nat.succ (cntNH a b l) else cntNH a b l else cntNH a b l := rfl
    rw [e, ih]
    simp only [holdsS, natL, List.map_cons, List.countP_cons, inS]
    by_cases h1 : a ≤ h.1
    · rw [Nat.ble_eq_true_of_le h1]
      by_cases h2 : h.2 ≤ b
      · rw [Nat.ble_eq_true_of_le h2]
        simp [Int.ofNat_le.2 h1, Int.ofNat_le.2 h2]
      · have : Nat.ble h.2 b = false := by
          cases hb : Nat.ble h.2 b with
          | false => rfl
          | true => exact absurd (Nat.le_of_ble_eq_true hb) h2
        rw [this]
        simp [h2]
    · have : Nat.ble a h.1 = false := by
        cases hb : Nat.ble a h.1 with
        | false => rfl
        | true => exact absurd (Nat.le_of_ble_eq_true hb) h1
      rw [this]
      simp [h1]
noncomputable def possN (k : Nat) (l : List (Nat × Nat)) : Bool := (List.range 24).all fun a => (List.range 24).all fun b => bif Nat.ble a b then Nat.ble (cntNH a b l) (Nat.mul (Nat.sub (Nat.succ b) a) k) else true
theorem possN_eq (k : Nat) (l : List (Nat × Nat)) : possN k l = possS k (natL l) := by
  rw [Bool.eq_iff_iff, possS_iff]
  unfold possN
  simp only [List.all_eq_true, List.mem_range]
  have hmul : ∀ a b : Nat, a ≤ b → ((b : Int) - a + 1) * (k : Int) = ((b + 1 - a) * k : Nat) := by
    intro a b hab
    rw [Int.natCast_mul]; congr 1; omega
  constructor
  · intro h a b h1 h2 h3
    obtain ⟨a, rfl⟩ := Int.eq_ofNat_of_zero_le h1
    obtain ⟨b, rfl⟩ := Int.eq_ofNat_of_zero_le (by omega : 0 ≤ b)
    have := h a (by omega) b (by omega)
    rw [Nat.ble_eq_true_of_le (by omega), cond_true] at this
    have := Nat.le_of_ble_eq_true this
    rw [cntN_eq] at this
    unfold crowdedS
    rw [hmul a b (by omega)]
    simp only [decide_eq_false_iff_not, Int.not_lt]
    exact Int.ofNat_le.2 this
  · intro h a ha b hb
    cases hab : Nat.ble a b with
    | false => rfl
    | true =>
      have hab := Nat.le_of_ble_eq_true hab
      have := h a b (by omega) (by omega) (by omega)
      unfold crowdedS at this
      rw [hmul a b hab, decide_eq_false_iff_not, Int.not_lt] at this
      rw [cond_true, cntN_eq]
      exact Nat.ble_eq_true_of_le (Int.ofNat_le.1 this)
noncomputable def crowdedN (a b k : Nat) (l : List (Nat × Nat)) : Bool := !(Nat.ble (cntNH a b l) (Nat.mul (Nat.sub (Nat.succ b) a) k))
theorem crowdedN_eq {a b : Nat} (hab : a ≤ b) (k : Nat) (l : List (Nat × Nat)) : crowdedN a b k l = crowdedS a b k (natL l) := by
  have hmul : ((b : Int) - a + 1) * (k : Int) = ((b + 1 - a) * k : Nat) := by
    rw [Int.natCast_mul]; congr 1; omega
  unfold crowdedN crowdedS
  rw [hmul, cntN_eq]
  cases hb : Nat.ble (holdsS a b (natL l)) (Nat.mul (Nat.sub (Nat.succ b) a) k) with
  | true =>
    have := Nat.le_of_ble_eq_true hb
    symm
    simp only [Bool.not_true, decide_eq_false_iff_not, Int.not_lt]
    exact Int.ofNat_le.2 this
  | false =>
    symm
    simp only [Bool.not_false, decide_eq_true_eq]
    refine Int.ofNat_lt.2 (Nat.lt_of_not_le fun h => ?_)
    have : Nat.ble (holdsS a b (natL l)) (Nat.mul (Nat.sub (Nat.succ b) a) k) = true := Nat.ble_eq_true_of_le h
    rw [hb] at this; cases this
noncomputable def fcN (k : Nat) (l : List (Nat × Nat)) (n : Nat) : Nat → Nat → Nat × Nat :=
  Nat.rec (fun a b => (a, b)) (fun _ ih a b => bif (bif Nat.beq a 24 then Nat.beq b 24 else false) then (a, b) else bif crowdedN a b k l then (a, b) else bif Nat.ble b 22 then forceN (Nat.succ b) fun b => ih a b else forceN (Nat.succ a) fun a => ih a a) n
theorem fcN_eq (k : Nat) (l : List (Nat × Nat)) : ∀ (n a b : Nat), a ≤ b → b ≤ 24 → (a = 24 → b = 24) → fcS k (natL l) n a b = (((fcN k l n a b).1 : Int), ((fcN k l n a b).2 : Int))
  | 0, a, b, _, _, _ => rfl
  | n + 1, a, b, hab, hb, h24 => by
    have e : fcN k l (n + 1) a b = bif (bif Nat.beq a 24 then Nat.beq b 24 else false) then (a, b) else bif crowdedN a b k l then (a, b) else bif Nat.ble b 22 then forceN (Nat.succ b) fun b => fcN k l n a b else forceN (Nat.succ a) fun a => fcN k l n a a := rfl
    rw [e]
    simp only [forceN_eq]
    unfold fcS
    rw [crowdedN_eq hab]
    by_cases hp : a = 24 ∧ b = 24
    · obtain ⟨rfl, rfl⟩ := hp
      simp
    · have e1 : (bif Nat.beq a 24 then Nat.beq b 24 else false) = false := by
        cases h : Nat.beq a 24 with
        | false => rfl
        | true =>
          have := Nat.eq_of_beq_eq_true h
          exact absurd ⟨this, h24 this⟩ hp
      have e2 : ((a : Int) == 24 && (b : Int) == 24) = false := by
        rw [Bool.and_eq_false_iff]; left; simp; omega
      rw [e1, e2, Bool.false_or, cond_false]
      cases hc : crowdedS a b k (natL l) with
      | true => simp
      | false =>
        simp only [Bool.false_eq_true, if_false, cond_false]
        unfold nextS
        by_cases h22 : b ≤ 22
        · rw [Nat.ble_eq_true_of_le h22, cond_true, if_pos (by omega)]
          exact fcN_eq k l n a (b + 1) (by omega) (by omega) (by omega)
        · have : Nat.ble b 22 = false := by
            cases hb : Nat.ble b 22 with
            | false => rfl
            | true => exact absurd (Nat.le_of_ble_eq_true hb) h22
          rw [this, cond_false, if_neg (by omega)]
          exact fcN_eq k l n (a + 1) (a + 1) (by omega) (by omega) (by omega)
theorem firstS_nat (k : Nat) (l : List (Nat × Nat)) : firstS k (natL l) = (((fcN k l 601 0 0).1 : Int), ((fcN k l 601 0 0).2 : Int)) := fcN_eq k l 601 0 0 (by omega) (by omega) (by omega)
end Go.Proofs.YticlfkmjmhjiaaaGreatDoor

/- The rest of a function by the kernel, beside the package variable: for laws whose first steps leave few cases. -/
namespace Go.Proofs.YticlfkmjmhjiaaaGreatDoor
open Go Go.Proofs.YticlfkmjmhjiaaaGreatDoor.AX

section
variable {P : Program}
/-- Statements one after the other, by the quick run. -/
noncomputable def runKL (C : Cx P) (ks : List Nat) (nt n : Nat) (cs : List Code) : Env → AH → Option (Ex × Env × AH) :=
  List.rec (motive := fun _ => Env → AH → Option (Ex × Env × AH)) (fun e H => some (.normal, e, H)) (fun c _ ih e H => match runJ P ks (runZ C n) nt n c e H with
    | some (.normal, e', H') => ih e' H'
    | r => r) cs
theorem runKL_cons (C : Cx P) (ks : List Nat) (nt n : Nat) (c : Code) (cs : List Code) (e : Env) (H : AH) : runKL C ks nt n (c :: cs) e H = match runJ P ks (runZ C n) nt n c e H with
    | some (.normal, e', H') => runKL C ks nt n cs e' H'
    | r => r := rfl
theorem L_kern {C : Cx P} (hC : C.Ok) (ks : List Nat) (n : Nat) {nt : Nat} {Q : Ex → Env → AH → Prop} {r : Ex × Env × AH} (hq : ∀ e2, EqE e2 r.2.1 → Q r.1 e2 r.2.2) : ∀ (cs : List Code) (e0 e : Env) (H : AH), EqE e0 e → runKL C ks nt n cs e H = some r → cs.all codeOrd = true → AWL P nt cs e0 H Q
  | [], e0, e, H, he, h, _ => by
    have h : some (Ex.normal, e, H) = some r := h
    cases h
    exact hq e0 he
  | c :: cs, e0, e, H, he, h, ho => by
    rw [List.all_cons, Bool.and_eq_true] at ho
    rw [runKL_cons] at h
    cases hx : runJ P ks (runZ C n) nt n c e H with
    | none => rw [hx] at h; cases h
    | some t =>
      obtain ⟨x, e', H'⟩ := t
      rw [hx] at h
      have hW := AW.eqE he (runK_sound hC.mixed (runZ_sound hC n).1 (runZ_sound hC n).2 n c _ _ _ _ _ ho.1 (runJ_runK _ _ _ _ _ hx))
      show AW P nt c e0 H _
      refine hW.mono ?_
      rintro x2 e2 H2 ⟨rfl, he2, rfl⟩
      cases x2 with
      | normal => exact L_kern hC ks n hq cs e2 e' _ he2 h ho.2
      | exit i => cases h; exact hq e2 he2
      | goto i => cases h; exact hq e2 he2
      | ret => cases h; exact hq e2 he2
/-- The package variable stands as it stood. -/
def headG : AH → Bool
  | .gvar 0 [.int .i64 (.ofNat 24), .int .i64 (.ofNat 24)] :: _ => true
  | _ => false
theorem headG_ext {H : AH} (h : headG H = true) : Ext (gRows gs) H := by
  unfold headG at h
  split at h
  · rename_i T
    exact Ext.push (gRows gs) T
  · cases h
noncomputable def kernT (C : Cx P) (fn : Func) (ks : List Nat) (nt n : Nat) (cs : List Code) (e : Env) (H : AH) : Bool :=
  match runKL C ks nt n cs e H with
  | some (.normal, e', H') | some (.ret, e', H') => (match aResults P fn e' H' with
    | some (.bool b) => b && headG H'
    | _ => false)
  | _ => false
/-- A law's rest returns true, as the kernel finds. -/
theorem L_kernT {C : Cx P} (hC : C.Ok) (ks : List Nat) (n : Nat) {nt : Nat} {fn : Func} {cs cs0 : List Code} {e : Env} {H : AH} (hc : cs = cs0) (h : kernT C fn ks nt n cs0 e H = true) (ho : cs0.all codeOrd = true) :
    AWL P nt cs e H fun x e' H' => (x = .normal ∨ x = .ret) ∧ ∃ v, aResults P fn e' H' = some v ∧ v = .bool true ∧ Ext (gRows gs) H' := by
  subst hc
  unfold kernT at h
  split at h
  · rename_i e' H' hr
    refine L_kern hC ks n (fun e2 he2 => ⟨.inl rfl, ?_⟩) cs e e H (.refl _) hr ho
    split at h
    · rename_i b hb
      simp only [Bool.and_eq_true] at h
      obtain ⟨rfl, h⟩ := h
      exact ⟨_, by rw [aResults_eqE he2]; exact hb, rfl, headG_ext h⟩
    · cases h
  · rename_i e' H' hr
    refine L_kern hC ks n (fun e2 he2 => ⟨.inr rfl, ?_⟩) cs e e H (.refl _) hr ho
    split at h
    · rename_i b hb
      simp only [Bool.and_eq_true] at h
      obtain ⟨rfl, h⟩ := h
      exact ⟨_, by rw [aResults_eqE he2]; exact hb, rfl, headG_ext h⟩
    · cases h
  · cases h
/-- What holds over the package variable alone holds over all. -/
theorem AC.of_nilG {f : FuncId} {args : List AV} (ha : Bels 0 args) (h : AC P f args (gRows gs) fun u H' => u = .bool true ∧ Ext (gRows gs) H') (H : AH) (hg : HasG gs H) : AC P f args H fun u _ => u = .bool true := by
  have h1 : AC P f args (gRows gs) fun v' H' => v' = .bool true ∧ H' = gRows gs :=
    AC.quiet (v := .bool true) rfl (fun Q hQ => h.mono fun u H' hu => by rw [hu.1]; exact hQ H' hu.2) _ ⟨rfl, rfl⟩
  exact (h1.closedG ha (.bool _) H hg).mono fun v' H' hv => hv.1
end
/-- What is left of a function after its first statements. -/
noncomputable def restOf (fn : Func) (k : Nat) : List Code := match fn.body with | some c => (flat c).drop k | none => []
end Go.Proofs.YticlfkmjmhjiaaaGreatDoor

/- The examples that each law ends with. -/
namespace Go.Proofs.YticlfkmjmhjiaaaGreatDoor
open Go Go.Proofs.YticlfkmjmhjiaaaGreatDoor.AX

/-- Heaps read off their cells. -/
def readN : List AV → Option (List (Nat × Nat))
  | [] => some []
  | .int .i64 (.ofNat a) :: .int .i64 (.ofNat b) :: rest => match readN rest with
    | some l => some ((a, b) :: l)
    | none => none
  | _ => none
theorem readN_get : ∀ {vs : List AV} {l : List (Nat × Nat)}, readN vs = some l → vs.length = l.length * 2 ∧ ∀ i (hi : i < l.length), (vs.drop (i * 2)).take 2 = two l[i].1 l[i].2
  | [], l, h => by
    simp [readN] at h; subst h
    exact ⟨rfl, fun i hi => by simp at hi⟩
  | [_], l, h => by simp [readN] at h
  | x :: y :: rest, l, h => by
    unfold readN at h
    split at h
    case h_1 => rename_i h0; simp at h0
    case h_3 => cases h
    rename_i a b rest' heq
    simp only [List.cons.injEq] at heq
    obtain ⟨rfl, rfl, rfl⟩ := heq
    split at h
    case h_2 => cases h
    rename_i l' hl
    cases h
    obtain ⟨h1, h2⟩ := readN_get hl
    refine ⟨by simp [h1]; omega, fun i hi => ?_⟩
    cases i with
    | zero => simp [two]
    | succ i =>
      have := h2 i (by simpa using hi)
      rw [show (i + 1) * 2 = i * 2 + 1 + 1 by omega, List.drop_succ_cons, List.drop_succ_cons, this]
      simp
/-- Heaps and hands read off a call's arguments. -/
noncomputable def heapsX {α : Type} (args : List AV) (H : AH) (no : α) (k : Nat → List (Nat × Nat) → α) : α :=
  match args with
  | [.slice r off len ver sz _, .int .i64 (.ofNat h)] =>
    bif Nat.ble len 1000 && Nat.ble h 1000 then
      match gfind H 0 with
      | some [.int .i64 (.ofNat 24), .int .i64 (.ofNat 24)] =>
        match r with
        | none => bif Nat.beq len 0 then k h [] else no
        | some r => bif Nat.beq sz 2 then
            match ldn H r ver (len * 2) off with
            | some vs => match readN vs with
              | some l => k h l
              | none => no
            | none => no
          else no
      | _ => no
    else no
  | _ => no
theorem hs_of {H : AH} {r off len ver : Nat} {full : Bool} {vs : List AV} {l : List (Nat × Nat)} (h : ldn H r ver (len * 2) off = some vs) (hl : readN vs = some l) : l.length = len ∧ Hs H (.slice (some r) off len ver 2 full) (natL l) := by
  obtain ⟨h1, h2⟩ := ldn_part h
  obtain ⟨h3, h4⟩ := readN_get hl
  have hlen : l.length = len := by omega
  refine ⟨hlen, some r, off, ver, 2, full, by simp [natL, hlen], fun i hi => ⟨r, rfl, rfl, ?_⟩⟩
  have hi' : i < l.length := by simpa [natL] using hi
  rw [h2 (i * 2) 2 (by omega), h4 i hi']
  simp [cells, natL]
theorem heapsX_ok {α : Type} {args : List AV} {H : AH} {no : Option α} {k : Nat → List (Nat × Nat) → Option α} {r : α} (h : heapsX args H no k = some r) : no = some r ∨
    ∃ v n l, args = [v, .int .i64 (.ofNat n)] ∧ l.length ≤ 1000 ∧ n ≤ 1000 ∧ HasG gs H ∧ Hs H v (natL l) ∧ k n l = some r := by
  unfold heapsX at h
  split at h
  case h_2 => exact .inl h
  rename_i r0 off len ver sz full n
  cases hb : Nat.ble len 1000 && Nat.ble n 1000 with
  | false => rw [hb] at h; exact .inl h
  | true =>
    rw [hb, cond_true] at h
    simp only [Bool.and_eq_true] at hb
    have hl1 := Nat.le_of_ble_eq_true hb.1
    have hk1 := Nat.le_of_ble_eq_true hb.2
    split at h
    case h_2 => exact .inl h
    rename_i hg
    have hG : HasG gs H := by
      intro x hx
      simp only [gs, List.mem_singleton] at hx
      subst hx
      exact ⟨hg, .cons (.int _ _) (.cons (.int _ _) .nil)⟩
    split at h
    · cases h0 : Nat.beq len 0 with
      | false => rw [h0] at h; exact .inl h
      | true =>
        have := Nat.eq_of_beq_eq_true h0
        subst this
        rw [h0, cond_true] at h
        exact .inr ⟨_, n, [], rfl, by simp, hk1, hG, ⟨none, off, ver, sz, full, rfl, fun i hi => by simp [natL] at hi⟩, h⟩
    · rename_i r1
      cases h0 : Nat.beq sz 2 with
      | false => rw [h0] at h; exact .inl h
      | true =>
        have := Nat.eq_of_beq_eq_true h0
        subst this
        rw [h0, cond_true] at h
        split at h
        case h_2 => exact .inl h
        rename_i vs hvs
        split at h
        case h_2 => exact .inl h
        rename_i l hl
        obtain ⟨h1, h2⟩ := hs_of (full := full) hvs hl
        exact .inr ⟨_, n, l, rfl, by omega, hk1, hG, h2, h⟩
noncomputable def possX (args : List AV) (H : AH) : Option (AV × AH) := heapsX args H none fun n l => some (.bool (possN n l), H)
noncomputable def firstX (args : List AV) (H : AH) : Option (AV × AH) := heapsX args H none fun n l => Prod.rec (fun a b => forceN a fun a => forceN b fun b => some (.agg [.int .i64 (.ofNat a), .int .i64 (.ofNat b)], H)) (fcN n l 601 0 0)
theorem possX_ok {args : List AV} {H : AH} {v : AV} {H' : AH} (h : possX args H = some (v, H')) : AC Tryz.prog 86 args H fun v' H2 => v' = v ∧ H2 = H' := by
  rcases heapsX_ok h with h | ⟨u, n, l, rfl, hl, hn, hG, hH, h⟩
  · cases h
  · cases h
    refine possible_ac n u (natL l) H _ (by simp [natL]; omega) hH ⟨Int.natCast_nonneg n, Int.ofNat_le.2 hn⟩ hG ⟨?_, rfl⟩
    rw [possN_eq]
theorem firstX_ok {args : List AV} {H : AH} {v : AV} {H' : AH} (h : firstX args H = some (v, H')) : AC Tryz.prog 104 args H fun v' H2 => v' = v ∧ H2 = H' := by
  rcases heapsX_ok h with h | ⟨u, n, l, rfl, hl, hn, hG, hH, h⟩
  · cases h
  · simp only [forceN_eq] at h
    cases h
    refine firstCrowded_q n u (natL l) H (by simp [natL]; omega) hH ⟨Int.natCast_nonneg n, Int.ofNat_le.2 hn⟩ hG _ ⟨?_, rfl⟩
    rw [firstS_nat]; rfl
theorem cond_some {α : Type} {b : Bool} {x y : Option α} {r : α} (h : (bif b then x else y) = some r) : (b = true ∧ x = some r) ∨ y = some r := by
  cases b with
  | true => exact .inl ⟨rfl, h⟩
  | false => exact .inr h
/-- The context in which plans are reckoned at once. -/
noncomputable def cxp : Cx Tryz.prog where
  good := goodT
  keep := keepT
  ext f args H := bif Nat.beq f 86 then possX args H else bif Nat.beq f 104 then firstX args H else none
end Go.Proofs.YticlfkmjmhjiaaaGreatDoor

/- Ported: Perm. -/
namespace Go.Proofs.YticlfkmjmhjiaaaGreatDoor
open Go Go.Proofs.YticlfkmjmhjiaaaGreatDoor.AX

/-- What a temporary that is called calls. -/
def callW (P : Program) (v : AV) (xs : List AV) : Option (FuncId × List AV) := match v with
  | .func (.func f) first cap => if okFn P f then some (f, first ++ xs ++ cap) else none
  | _ => none
@[simp] theorem callW_f {P : Program} {f : FuncId} {first cap xs : List AV} : callW P (.func (.func f) first cap) xs = if okFn P f then some (f, first ++ xs ++ cap) else none := rfl
@[simp] theorem opcall_tmp {P : Program} {e : Env} {t : Tmp} {xs : Array Operand} {ts : Array TypeId} : opCall P (oval e) (.call ⟨.value (.tmp t), xs, ts⟩) = callW P (eget e t) (xs.toList.map (oval e)) := by
  simp only [opCall, oval, callW]
  cases eget e t <;> rfl
/-- All rows but one are as they were. -/
def KeepX (r : Nat) (H H' : AH) : Prop := H.length ≤ H'.length ∧ ∀ j : Nat, j ≠ r → j < H.length → H'[j]? = H[j]?
theorem KeepX.refl (r : Nat) (H : AH) : KeepX r H H := ⟨Nat.le_refl _, fun _ _ _ => rfl⟩
theorem KeepX.ext {r : Nat} {A B C : AH} (h : KeepX r A B) (k : Ext B C) : KeepX r A C := ⟨Nat.le_trans h.1 k.1, fun j h1 h2 => by rw [k.2 j (by have := h.1; omega), h.2 j h1 h2]⟩
theorem KeepX.set {r : Nat} {A B : AH} (h : KeepX r A B) (o : AObj) : KeepX r A (B.set r o) := ⟨by simpa using h.1, fun j h1 h2 => by rw [List.getElem?_set_ne (Ne.symm h1), h.2 j h1 h2]⟩
theorem KeepX.row {r : Nat} {H H' : AH} (h : KeepX r H H') {j : Nat} {o : AObj} (hj : j ≠ r) (ho : H[j]? = some o) : H'[j]? = some o := by
  rw [h.2 j hj (List.getElem?_eq_some_iff.1 ho).1]; exact ho
theorem KeepX.trans {r : Nat} {A B C : AH} (h : KeepX r A B) (k : KeepX r B C) : KeepX r A C := ⟨Nat.le_trans h.1 k.1, fun j h1 h2 => by rw [k.2 j h1 (by have := h.1; omega), h.2 j h1 h2]⟩
def g (c : List Int) (i : Nat) : Int := c.getD i 0
theorem g_lt {c : List Int} {i : Nat} (h : i < c.length) : g c i = c[i] := by simp [g, List.getD_eq_getElem?_getD, h]
def sw (c : List Int) (i j : Nat) : List Int := (c.set i (g c j)).set j (g c i)
theorem g_sw {c : List Int} {i j : Nat} (hi : i < c.length) (hj : j < c.length) (k : Nat) : g (sw c i j) k = if k = j then g c i else if k = i then g c j else g c k := by
  unfold sw
  unfold g
  simp only [List.getD_eq_getElem?_getD, List.getElem?_set, List.length_set]
  by_cases h1 : k = j
  · subst h1; simp [hj]
  · by_cases h2 : k = i
    · subst h2; simp [h1, hi, Ne.symm h1]
    · simp [Ne.symm h1, Ne.symm h2, h1, h2]
theorem sw_perm {c : List Int} {i j : Nat} (hi : i < c.length) (hj : j < c.length) : (sw c i j).Perm c := by
  have h := Array.swap_perm (xs := c.toArray) (i := i) (j := j) (by simpa using hi) (by simpa using hj)
  have h2 := h.toList
  simp only [Array.swap, Array.toList_set] at h2
  have e1 : g c j = c[j] := g_lt hj
  have e2 : g c i = c[i] := g_lt hi
  simpa [sw, e1, e2] using h2
/-- Mixed between a and b. -/
def Shuf (a b : Nat) (c m : List Int) : Prop := m.Perm c ∧ ∀ k, k < a ∨ b ≤ k → g m k = g c k
theorem Shuf.refl (a b : Nat) (c : List Int) : Shuf a b c c := ⟨.refl _, fun _ _ => rfl⟩
theorem Shuf.len {a b : Nat} {c m : List Int} (h : Shuf a b c m) : m.length = c.length := h.1.length_eq
theorem Shuf.trans {a b : Nat} {c d m : List Int} (h : Shuf a b c d) (k : Shuf a b d m) : Shuf a b c m := ⟨k.1.trans h.1, fun i hi => by rw [k.2 i hi, h.2 i hi]⟩
theorem Shuf.swap {a b i j : Nat} {c : List Int} (hb : b ≤ c.length) (hi : a ≤ i ∧ i < b) (hj : a ≤ j ∧ j < b) : Shuf a b c (sw c i j) :=
  ⟨sw_perm (by omega) (by omega), fun k hk => by rw [g_sw (by omega) (by omega), if_neg (by omega), if_neg (by omega)]⟩
def mid (a b : Nat) (c : List Int) : List Int := (c.drop a).take (b - a)
theorem mid_mem {a b : Nat} {c : List Int} (hb : b ≤ c.length) {x : Int} : x ∈ mid a b c ↔ ∃ k, a ≤ k ∧ k < b ∧ g c k = x := by
  unfold mid
  constructor
  · intro h
    obtain ⟨i, hi, rfl⟩ := List.mem_iff_getElem.1 h
    simp at hi
    exact ⟨a + i, by omega, by omega, by rw [g_lt (by omega)]; simp⟩
  · rintro ⟨k, h1, h2, rfl⟩
    rw [g_lt (by omega)]
    exact List.mem_iff_getElem.2 ⟨k - a, by simp; omega, by simp; congr 1; omega⟩
theorem Shuf.mid {a b : Nat} {c m : List Int} (h : Shuf a b c m) (hab : a ≤ b) (hb : b ≤ c.length) : (mid a b m).Perm (mid a b c) := by
  have hl := h.len
  have split : ∀ l : List Int, l = l.take a ++ (Go.Proofs.YticlfkmjmhjiaaaGreatDoor.mid a b l ++ l.drop b) := by
    intro l
    unfold Go.Proofs.YticlfkmjmhjiaaaGreatDoor.mid
    have : l.drop b = (l.drop a).drop (b - a) := by rw [List.drop_drop]; congr 1; omega
    rw [this, List.take_append_drop, List.take_append_drop]
  have e1 : m.take a = c.take a := by
    apply List.ext_getElem (by simp [hl])
    intro i h1 h2
    simp at h1 h2
    have := h.2 i (by omega)
    rw [g_lt (by omega), g_lt (by omega)] at this
    simpa using this
  have e2 : m.drop b = c.drop b := by
    apply List.ext_getElem (by simp [hl])
    intro i h1 h2
    simp at h1 h2
    have := h.2 (b + i) (by omega)
    rw [g_lt (by omega), g_lt (by omega)] at this
    simpa using this
  have hp := h.1
  rw [split m, split c, e1, e2] at hp
  exact (List.perm_append_right_iff _).1 ((List.perm_append_left_iff _).1 hp)
/-- What holds of all between, holds of all when they are mixed. -/
theorem Shuf.all {a b : Nat} {c m : List Int} (h : Shuf a b c m) (hb : b ≤ c.length) {p : Int → Prop} (hp : ∀ k, a ≤ k → k < b → p (g c k)) : ∀ k, a ≤ k → k < b → p (g m k) := by
  intro k h1 h2
  have hm : g m k ∈ Go.Proofs.YticlfkmjmhjiaaaGreatDoor.mid a b m := (mid_mem (by have := h.len; omega)).2 ⟨k, h1, h2, rfl⟩
  obtain ⟨k', h3, h4, h5⟩ := (mid_mem hb).1 ((h.mid (by omega) hb).mem_iff.1 hm)
  rw [← h5]; exact hp k' h3 h4
def Rw (r ver : Nat) (H : AH) (c : List Int) : Prop := ∃ s, H[r]? = some (.row (c.map (.int .i64)) ver s false)
theorem Rw.ld {r ver i : Nat} {H : AH} {c : List Int} (h : Rw r ver H c) (hi : i < c.length) : AX.ld H r i ver = some (.int .i64 (g c i)) := by
  obtain ⟨s, h⟩ := h
  rw [ld_row h, g_lt hi]; simp [hi]
theorem Rw.ext {r ver : Nat} {H H' : AH} {c : List Int} (h : Rw r ver H c) (hE : Ext H H') : Rw r ver H' c := by
  obtain ⟨s, h⟩ := h
  exact ⟨s, hE.row h⟩
theorem Rw.swap {r ver i j : Nat} {H : AH} {c : List Int} (h : Rw r ver H c) (hi : i < c.length) (hj : j < c.length) :
    ∃ H1 H2, storeV Tryz.prog 3 H (.ptr r i ver) (.int .i64 (g c j)) = some (none, H1) ∧ storeV Tryz.prog 3 H1 (.ptr r j ver) (.int .i64 (g c i)) = some (none, H2) ∧ Rw r ver H2 (sw c i j) ∧ KeepX r H H2 := by
  obtain ⟨s, h⟩ := h
  have h1 := store_row (P := Tryz.prog) (u := 3) (p := i) sc3 (x := .int .i64 (g c j)) (y := .int .i64 c[i]) rfl h (by simp [hi])
  have e1 : (c.map (AV.int .i64)).set i (.int .i64 (g c j)) = (c.set i (g c j)).map (.int .i64) := by rw [List.map_set]
  rw [e1] at h1
  have hr1 := get_set (o' := .row ((c.set i (g c j)).map (.int .i64)) ver (min s i) false) h
  have h2 := store_row (P := Tryz.prog) (u := 3) (p := j) sc3 (x := .int .i64 (g c i)) (y := .int .i64 ((c.set i (g c j))[j]'(by simpa using hj))) rfl hr1 (by rw [List.getElem?_map, List.getElem?_eq_getElem (by simpa using hj)]; rfl)
  have e2 : ((c.set i (g c j)).map (AV.int .i64)).set j (.int .i64 (g c i)) = (sw c i j).map (.int .i64) := by rw [← List.map_set]; rfl
  rw [e2] at h2
  exact ⟨_, _, h1, h2, ⟨_, get_set hr1⟩, ((KeepX.refl r H).set _).set _⟩
end Go.Proofs.YticlfkmjmhjiaaaGreatDoor

/- Ported: App. -/
namespace Go.Proofs.YticlfkmjmhjiaaaGreatDoor
open Go Go.Proofs.YticlfkmjmhjiaaaGreatDoor.AX
theorem ldn_ints {H : AH} {r ver : Nat} : ∀ {m : List Int} {p : Nat}, (∀ i (h : i < m.length), ld H r (p + i) ver = some (.int .i64 m[i])) → ldn H r ver m.length p = some (m.map (.int .i64))
  | [], _, _ => rfl
  | x :: m, p, h => by
    have h0 := h 0 (by simp)
    simp only [Nat.add_zero, List.getElem_cons_zero] at h0
    have h1 : ldn H r ver m.length (p + 1) = some (m.map (.int .i64)) := ldn_ints fun i hi => by
      have := h (i + 1) (by simpa using hi)
      simp only [List.getElem_cons_succ] at this
      rw [← this]; congr 1; omega
    rw [List.length_cons, ldn_succ, h0, Option.bind_some, h1]
    rfl
theorem src_ls {P : Program} {H : AH} {u : TypeId} {x : AV} {m : List Int} (hu : elT P u = true) (hx : Ls H x m) : aSrc P H u 1 x = some (m.length, m.map (.int .i64)) := by
  obtain ⟨e', I', g1, -⟩ := elT_some hu
  obtain ⟨r, off, ver, sz, full, rfl, hld⟩ := hx
  unfold aSrc
  rw [g1]
  cases m with
  | nil => cases r <;> simp
  | cons y m =>
    obtain ⟨r', rfl, rfl, -⟩ := hld 0 (by simp)
    have h1 : ldn H r' ver (y :: m).length off = some ((y :: m).map (.int .i64)) := ldn_ints fun i hi => by
      obtain ⟨r2, h2, -, h3⟩ := hld i hi
      obtain rfl := Option.some.inj h2
      exact h3
    simp only [Nat.mul_one, h1]
    simp
theorem all_ints (m : List Int) : (m.map (AV.int .i64)).all AV.one = true := by
  rw [List.all_eq_true]
  intro x hx
  obtain ⟨i, -, rfl⟩ := List.mem_map.1 hx
  rfl
theorem row0 {P : Program} {H : AH} {t : TypeId} (ht : elT P t = true) : rowV P t 0 [] H = some (some (.slice (some H.length) 0 0 0 1 false), H ++ [.row [] 0 0 false]) := by
  obtain ⟨e, I, h1, h2, h3, h4, hzz⟩ := elT_some ht
  simp [rowV, h1, h2, h3, aFill]
@[simp] theorem row26_0 (H : AH) : rowV Tryz.prog 26 0 [] H = some (some (.slice (some H.length) 0 0 0 1 false), H ++ [.row [] 0 0 false]) := row0 el26
/-- append(l, x...) -/
theorem ownF_appendL {P : Program} {H H0 : AH} (hE : Ext H0 H) {t u : TypeId} (ht : elT P t = true) (hu : elT P u = true) {v x : AV} {l m : List Int} (ho : OwnF H0.length H v (l.map (.int .i64))) (hx : Ls H x m) (hlen : l.length + m.length ≤ 16777216) :
    ∃ v' H', aAppend P H t u v x = some (v', H') ∧ OwnF H0.length H' v' ((l ++ m).map (.int .i64)) ∧ Ext H0 H' := by
  obtain ⟨e, I, h1, h2, h3, h4, -⟩ := elT_some ht
  have hsrc := src_ls hu hx
  have hall := all_ints m
  have hle := hE.1
  unfold aAppend
  cases m with
  | nil =>
    simp only [List.length_nil, List.map_nil] at hsrc
    refine ⟨v, H, ?_, by simpa using ho, hE⟩
    rcases ho with ⟨-, rfl⟩ | ⟨r, ver, stale, hr0, rfl, hr⟩ <;> simp [h1, h2, h3, h4, hsrc]
  | cons y m =>
    have hml : ((y :: m).map (AV.int .i64)).length = (y :: m).length := by simp
    rw [List.map_append]
    generalize (y :: m).map (AV.int .i64) = vs at *
    have hne : (y :: m).length ≠ 0 := by simp
    generalize (y :: m).length = k at *
    rcases ho with ⟨h0, rfl⟩ | ⟨r, ver, stale, hr0, rfl, hr⟩
    · have : l = [] := by simpa using h0
      subst this
      have hk : k ≤ 16777216 := by simpa using hlen
      refine ⟨.slice (some H.length) 0 k 0 1 false, H ++ [.row vs 0 0 false], ?_, .inr ⟨H.length, 0, 0, by omega, by simp [hml], by simp⟩, hE.trans (.push _ _)⟩
      simp only [h1, h2, h3, h4, hsrc]
      simp [hml, hne, hk]
      exact fun x hx => List.all_eq_true.1 hall x hx
    · have hlt : r < H.length := (List.getElem?_eq_some_iff.1 hr).1
      have hll : (l.map (AV.int .i64)).length = l.length := by simp
      generalize hL : l.map (AV.int .i64) = L at *
      refine ⟨.slice (some r) 0 (l.length + k) (ver + 1) 1 false, H.set r (AObj.row (L ++ vs) (ver + 1) (min stale l.length) false), ?_, .inr ⟨r, ver + 1, min stale l.length, hr0, by simp [hll, hml], get_set hr⟩, hE.set _ hr0⟩
      have hin : inPlace H r 0 l.length k ver 1 vs = none := by simp [inPlace, hr, hll]; omega
      have hgr : grow H r 0 l.length ver vs = some (H.set r (AObj.row (L ++ vs) (ver + 1) (min stale l.length) false), ver + 1) := by
        simp [grow, hr, ← hll]
      simp only [h1, h2, h3, h4, hsrc, hll]
      simp only [Nat.zero_lt_one, true_and, if_true, Option.bind_some, hall, hml, Nat.mul_one, beq_self_eq_true, Bool.and_true, hne, if_false, hlen, Bool.false_eq_true, hin, hgr, Option.map_some]
theorem KeepX.new {r : Nat} {H0 A B : AH} (h : KeepX r A B) (hE : Ext H0 A) (hr : H0.length ≤ r) : Ext H0 B := ⟨Nat.le_trans hE.1 h.1, fun j hj => by rw [h.2 j (by omega) (by have := hE.1; omega), hE.2 j hj]⟩
theorem Rw.put {r ver i : Nat} {H : AH} {c : List Int} (h : Rw r ver H c) (hi : i < c.length) (x : Int) :
    ∃ H1, storeV Tryz.prog 3 H (.ptr r i ver) (.int .i64 x) = some (none, H1) ∧ Rw r ver H1 (c.set i x) ∧ KeepX r H H1 := by
  obtain ⟨s, h⟩ := h
  have h1 := store_row (P := Tryz.prog) (u := 3) (p := i) sc3 (x := .int .i64 x) (y := .int .i64 c[i]) rfl h (by simp [hi])
  have e1 : (c.map (AV.int .i64)).set i (.int .i64 x) = (c.set i x).map (.int .i64) := by rw [List.map_set]
  rw [e1] at h1
  exact ⟨_, h1, ⟨_, get_set h⟩, (KeepX.refl r H).set _⟩
theorem g_set {c : List Int} {i : Nat} (hi : i < c.length) (x : Int) (k : Nat) : g (c.set i x) k = if k = i then x else g c k := by
  unfold g
  simp only [List.getD_eq_getElem?_getD, List.getElem?_set]
  by_cases h : i = k
  · subst h; simp [hi]
  · rw [if_neg h, if_neg (fun e => h e.symm)]
theorem Rw.ownF {N r ver : Nat} {H : AH} {c : List Int} (h : Rw r ver H c) (hr : N ≤ r) : OwnF N H (.slice (some r) 0 c.length ver 1 false) (c.map (.int .i64)) := by
  obtain ⟨s, h⟩ := h
  exact .inr ⟨r, ver, s, hr, by simp, h⟩
theorem Rw.ls {r ver : Nat} {H : AH} {c : List Int} (h : Rw r ver H c) : Ls H (.slice (some r) 0 c.length ver 1 false) c := by
  obtain ⟨s, h⟩ := h
  exact Ls.row h false
/-- The row of a slice. -/
def rowOf : AV → Option Nat
  | .slice r _ _ _ _ _ => r
  | _ => none
theorem ls_keep {H H' : AH} {w : AV} {l : List Int} (h : Ls H w l) (hk : ∀ j, j < H.length → rowOf w = some j → H'[j]? = H[j]?) : Ls H' w l := by
  obtain ⟨r, off, ver, sz, full, rfl, hl⟩ := h
  refine ⟨r, off, ver, sz, full, rfl, fun i hi => ?_⟩
  obtain ⟨r', h1, h2, h3⟩ := hl i hi
  refine ⟨r', h1, h2, ?_⟩
  have := hk r' (ld_lt h3) h1
  unfold ld at h3 ⊢
  rw [this]; exact h3
theorem ownF_ext {N : Nat} {H H1 : AH} {v : AV} {l : List AV} (h : OwnF N H v l) (hE : Ext H H1) : OwnF N H1 v l := by
  rcases h with h | ⟨r, ver, stale, h1, h2, h3⟩
  · exact .inl h
  · exact .inr ⟨r, ver, stale, h1, h2, hE.row h3⟩
theorem ownF_rowlt {N : Nat} {H : AH} {v : AV} {l : List AV} (h : OwnF N H v l) {j : Nat} (hj : rowOf v = some j) : N ≤ j ∧ j < H.length := by
  rcases h with ⟨-, rfl⟩ | ⟨r, ver, stale, h1, rfl, h3⟩
  · cases hj
  · cases hj; exact ⟨h1, (List.getElem?_eq_some_iff.1 h3).1⟩
end Go.Proofs.YticlfkmjmhjiaaaGreatDoor

/- Ported: Seats. -/
namespace Go.Proofs.YticlfkmjmhjiaaaGreatDoor
open Go Go.Proofs.YticlfkmjmhjiaaaGreatDoor.AX

/-- Seats: a part of a row, with or without room behind it. -/
def SV (b : Bool) (r off len ver : Nat) : AV := bif b then .clip r off len ver 1 else .slice (some r) off len ver 1 false
theorem und22 : Tryz.prog.underlying 26 = some (.slice 3) := by kernel_rfl
theorem inf3 : ∃ i, Tryz.prog.info? 3 = some i ∧ i.size = 1 := by
  have h := slz26
  unfold slSz at h
  rw [und22] at h
  simp only [Option.map_eq_some_iff] at h
  exact h
@[simp] theorem lenS (b : Bool) (r off len ver : Nat) : aLen Tryz.prog 26 (SV b r off len ver) = some (.int .i64 len) := by
  cases b
  · exact len26 ..
  · unfold aLen SV; rw [und22]; rfl
@[simp] theorem ixaS (b : Bool) (r off len ver : Nat) (k : IntKind) (i : Int) : aIndexAddr Tryz.prog 26 (SV b r off len ver) (.int k i) = if 0 ≤ i ∧ i < len then some (.ptr r (off + i.toNat) ver) else none := by
  cases b
  · have := ixa26 r off len ver false k i
    rw [Nat.mul_one] at this
    exact this
  · obtain ⟨ie, h1, h2⟩ := inf3
    unfold aIndexAddr SV
    rw [und22]
    simp [h1, h2]
theorem g_app (a b : List Int) (i : Nat) : g (a ++ b) i = if i < a.length then g a i else g b (i - a.length) := by
  unfold g
  simp only [List.getD_eq_getElem?_getD]
  split
  · rename_i h; rw [List.getElem?_append_left h]
  · rename_i h; rw [List.getElem?_append_right (by omega)]
theorem g_drop (l : List Int) (a i : Nat) : g (l.drop a) i = g l (a + i) := by simp [g, List.getD_eq_getElem?_getD]
theorem g_take {l : List Int} {a i : Nat} (h : i < a) : g (l.take a) i = g l i := by simp [g, List.getD_eq_getElem?_getD, List.getElem?_take_of_lt h]
theorem g_ext {a b : List Int} (h1 : a.length = b.length) (h2 : ∀ i, i < a.length → g a i = g b i) : a = b := by
  apply List.ext_getElem h1
  intro i ha hb
  have := h2 i ha
  rwa [g_lt ha, g_lt hb] at this
theorem ls_len {H : AH} {v : AV} {l : List Int} (h : Ls H v l) : aLen Tryz.prog 26 v = some (.int .i64 l.length) := by
  obtain ⟨r, off, ver, sz, full, rfl, -⟩ := h
  exact len26 ..
theorem ls_ix {H : AH} {v : AV} {l : List Int} (h : Ls H v l) {i : Nat} (hi : i < l.length) : ∃ r p ver, (∀ k, aIndexAddr Tryz.prog 26 v (.int k (i : Int)) = some (.ptr r p ver)) ∧ ld H r p ver = some (.int .i64 (g l i)) := by
  obtain ⟨r, off, ver, sz, full, rfl, hld⟩ := h
  obtain ⟨r', rfl, rfl, hx⟩ := hld i hi
  rw [← g_lt hi] at hx
  exact ⟨r', off + i, ver, fun k => by simp [hi], hx⟩
theorem ls_hi {H : AH} {v : AV} {l : List Int} (h : Ls H v l) (h0 : 0 < l.length) {m : Nat} (hm : m ≤ l.length) : ∃ u, aSlice Tryz.prog 26 v none (some (.int .i64 (m : Int))) none = some u ∧ Ls H u (l.take m) := by
  obtain ⟨r, off, ver, sz, full, rfl, hsz, hsub⟩ := h.sub
  obtain rfl := hsz (by intro e; rw [e] at h0; simp at h0)
  have h2 := hsub 0 m (full && m == l.length) (by omega) hm
  rw [Nat.sub_zero, List.drop_zero] at h2
  exact ⟨_, slice_hi slz26 r off _ ver full hm, h2⟩
section
variable {P : Program} {nt : Nat} {e : Env} {H : AH}
end
end Go.Proofs.YticlfkmjmhjiaaaGreatDoor

/- Ported: SrtM. -/
namespace Go.Proofs.YticlfkmjmhjiaaaGreatDoor.Ord
open Go Go.Proofs.YticlfkmjmhjiaaaGreatDoor.AX Go.Proofs.YticlfkmjmhjiaaaGreatDoor
variable {sb : Bool} {tl : List AV}
theorem set_ne {H : AH} {i j : Nat} {o : AObj} (h : i ≠ j) : (H.set i o)[j]? = H[j]? := List.getElem?_set_ne h
/-- A row that begins with these numbers. -/
def Rw (tl : List AV) (r ver : Nat) (H : AH) (c : List Int) : Prop := ∃ s, H[r]? = some (.row (c.map (.int .i64) ++ tl) ver s false)
theorem Rw.ld {r ver i : Nat} {H : AH} {c : List Int} (h : Rw tl r ver H c) (hi : i < c.length) : AX.ld H r i ver = some (.int .i64 (g c i)) := by
  obtain ⟨s, h⟩ := h
  rw [ld_row h, g_lt hi, List.getElem?_append_left (by simpa using hi)]; simp [hi]
theorem Rw.ext {r ver : Nat} {H H' : AH} {c : List Int} (h : Rw tl r ver H c) (hE : Ext H H') : Rw tl r ver H' c := by
  obtain ⟨s, h⟩ := h
  exact ⟨s, hE.row h⟩
theorem Rw.swap {r ver i j : Nat} {H : AH} {c : List Int} (h : Rw tl r ver H c) (hi : i < c.length) (hj : j < c.length) :
    ∃ H1 H2, storeV Tryz.prog 3 H (.ptr r i ver) (.int .i64 (g c j)) = some (none, H1) ∧ storeV Tryz.prog 3 H1 (.ptr r j ver) (.int .i64 (g c i)) = some (none, H2) ∧ Rw tl r ver H2 (sw c i j) ∧ KeepX r H H2 := by
  obtain ⟨s, h⟩ := h
  have h1 := store_row (P := Tryz.prog) (u := 3) (p := i) sc3 (x := .int .i64 (g c j)) (y := .int .i64 c[i]) rfl h (by rw [List.getElem?_append_left (by simpa using hi)]; simp [hi])
  have e1 : (c.map (AV.int .i64) ++ tl).set i (.int .i64 (g c j)) = (c.set i (g c j)).map (.int .i64) ++ tl := by rw [List.set_append_left _ _ (by simpa using hi), List.map_set]
  rw [e1] at h1
  have hr1 := get_set (o' := .row ((c.set i (g c j)).map (.int .i64) ++ tl) ver (min s i) false) h
  have h2 := store_row (P := Tryz.prog) (u := 3) (p := j) sc3 (x := .int .i64 (g c i)) (y := .int .i64 ((c.set i (g c j))[j]'(by simpa using hj))) rfl hr1 (by rw [List.getElem?_append_left (by simpa using hj), List.getElem?_map, List.getElem?_eq_getElem (by simpa using hj)]; rfl)
  have e2 : ((c.set i (g c j)).map (AV.int .i64) ++ tl).set j (.int .i64 (g c i)) = (sw c i j).map (.int .i64) ++ tl := by rw [List.set_append_left _ _ (by simpa using hj), ← List.map_set]; rfl
  rw [e2] at h2
  exact ⟨_, _, h1, h2, ⟨_, get_set hr1⟩, ((KeepX.refl r H).set _).set _⟩
/-- What a comparison says. -/
def cmpS (a b : Int) : Int := if a < b then -1 else if b < a then 1 else 0
/-- Sorted between a and b. -/
def Srt (κ : Int → Int) (a b : Nat) (c : List Int) : Prop := ∀ p q, a ≤ p → p < q → q < b → κ (g c p) ≤ κ (g c q)
def All (D : Int → Prop) (c : List Int) : Prop := ∀ i, i < c.length → D (g c i)
theorem All.perm {D : Int → Prop} {c m : List Int} (h : All D c) (hp : m.Perm c) : All D m := by
  intro i hi
  have : m[i] ∈ c := hp.mem_iff.1 (by simp)
  obtain ⟨j, hj, e⟩ := List.mem_iff_getElem.1 this
  rw [g_lt hi, ← e, ← g_lt hj]; exact h j hj
/-- What stands while a pivot is chosen: the row, and how often two were out of order. -/
structure Piv (tl : List AV) (r ver sp : Nat) (B : AH) (c : List Int) (k : Nat) (H : AH) : Prop where
  keep : KeepX r B H
  row : Rw tl r ver H c
  lt : B.length ≤ sp
  ne : r ≠ sp
  cnt : ∃ s st : Nat, s ≤ k ∧ H[sp]? = some (.row [.int .i64 s] 0 st false)
theorem Piv.mono {r ver sp k k' : Nat} {B H : AH} {c : List Int} (h : Piv tl r ver sp B c k H) (hk : k ≤ k') : Piv tl r ver sp B c k' H :=
  ⟨h.keep, h.row, h.lt, h.ne, let ⟨s, st, h1, h2⟩ := h.cnt; ⟨s, st, by omega, h2⟩⟩
/-- What lies below place i is not greater. -/
def Hp (κ : Int → Int) (f hi : Nat) (d : List Int) (i : Nat) : Prop := ∀ c, c = 2 * i + 1 ∨ c = 2 * i + 2 → c < hi → κ (g d (f + c)) ≤ κ (g d (f + i))
def lenN (n : Nat) : Nat := if n < 1 then 0 else if n < 2 then 1 else if n < 4 then 2 else if n < 8 then 3 else if n < 16 then 4 else if n < 32 then 5 else if n < 64 then 6 else 7
@[simp] theorem cvA (n : Nat) (hn : n ≤ 1000000) : aConv Tryz.prog 3 104 (.int .i64 n) = some (.int .u64 n) := by
  rw [cv_int (by kernel_rfl) (by kernel_rfl) n, wrap_u64 (by omega)]
/-- Sorted, but for what lies between a' and b'. -/
def OrdEx (κ : Int → Int) (a b a' b' : Nat) (d : List Int) : Prop := ∀ p q, a ≤ p → p < q → q < b → ¬ (a' ≤ p ∧ q < b') → κ (g d p) ≤ κ (g d q)
def Pre (κ : Int → Int) (a b : Nat) (d : List Int) : Prop := 0 < a → ∀ k, a ≤ k → k < b → κ (g d (a - 1)) ≤ κ (g d k)
theorem OrdEx.mix {κ : Int → Int} {a b a' b' : Nat} {d m : List Int} (h : OrdEx κ a b a' b' d) (hS : Shuf a' b' d m) (hb : b' ≤ d.length) (haa : a ≤ a') (hbb : b' ≤ b) : OrdEx κ a b a' b' m := by
  intro p q h1 h2 h3 h4
  by_cases hp : a' ≤ p ∧ p < b'
  · have hq : b' ≤ q := by omega
    rw [hS.2 q (by omega)]
    exact hS.all hb (p := fun x => κ x ≤ κ (g d q)) (fun k k1 k2 => h k q (by omega) (by omega) h3 (by omega)) p hp.1 hp.2
  · rw [hS.2 p (by omega)]
    by_cases hq : a' ≤ q ∧ q < b'
    · exact hS.all hb (p := fun x => κ (g d p) ≤ κ x) (fun k k1 k2 => h p k h1 (by omega) (by omega) (by omega)) q hq.1 hq.2
    · rw [hS.2 q (by omega)]
      exact h p q h1 h2 h3 h4
theorem Pre.mix {κ : Int → Int} {a b : Nat} {d m : List Int} (h : Pre κ a b d) (hS : Shuf a b d m) (hb : b ≤ d.length) : Pre κ a b m := by
  intro h0 k k1 k2
  rw [hS.2 (a - 1) (by omega)]
  exact hS.all hb (p := fun x => κ (g d (a - 1)) ≤ κ x) (fun k k1 k2 => h h0 k k1 k2) k k1 k2
theorem OrdEx.srt {κ : Int → Int} {a b a' b' : Nat} {m : List Int} (h : OrdEx κ a b a' b' m) (hs : Srt κ a' b' m) : Srt κ a b m := by
  intro p q h1 h2 h3
  by_cases e : a' ≤ p ∧ q < b'
  · exact hs p q e.1 h2 e.2
  · exact h p q h1 h2 h3 e
end Go.Proofs.YticlfkmjmhjiaaaGreatDoor.Ord

/- Ported: Box. -/
namespace Go.Proofs.YticlfkmjmhjiaaaGreatDoor
open Go Go.Proofs.YticlfkmjmhjiaaaGreatDoor.AX
namespace Arr
/-- Smaller, place by place. -/
def lx : List Int → List Int → Prop
  | a :: l, b :: m => a < b ∨ (a = b ∧ lx l m)
  | [], _ => False
  | _ :: _, [] => False
instance decLx : ∀ a b, Decidable (lx a b)
  | a :: l, b :: m => @instDecidableOr _ _ _ (@instDecidableAnd _ _ _ (decLx l m))
  | [], _ => .isFalse (by simp [lx])
  | _ :: _, [] => .isFalse (by simp [lx])
theorem lx_irr : ∀ a, ¬ lx a a
  | [] => by simp [lx]
  | a :: l => by simp only [lx]; rintro (h | ⟨-, h⟩); · omega
                 exact lx_irr l h
theorem lx_trans : ∀ {a b c : List Int}, lx a b → lx b c → lx a c
  | [], _, _, h, _ => h.elim
  | _ :: _, [], _, h, _ => h.elim
  | _ :: _, _ :: _, [], _, h => h.elim
  | a :: l, b :: m, c :: n, h, k => by
    simp only [lx] at h k ⊢
    rcases h with h | ⟨h, h'⟩ <;> rcases k with k | ⟨k, k'⟩
    · exact .inl (by omega)
    · exact .inl (by omega)
    · exact .inl (by omega)
    · exact .inr ⟨by omega, lx_trans h' k'⟩
theorem lx_tri : ∀ {a b : List Int}, a.length = b.length → lx a b ∨ a = b ∨ lx b a
  | [], [], _ => .inr (.inl rfl)
  | [], _ :: _, h => by simp at h
  | _ :: _, [], h => by simp at h
  | a :: l, b :: m, h => by
    simp only [lx]
    rcases Int.lt_trichotomy a b with e | e | e
    · exact .inl (.inl e)
    · subst e
      rcases lx_tri (a := l) (b := m) (by simpa using h) with k | k | k
      · exact .inl (.inr ⟨rfl, k⟩)
      · exact .inr (.inl (by rw [k]))
      · exact .inr (.inr (.inr ⟨rfl, k⟩))
    · exact .inr (.inr (.inl e))
def le (a b : List Int) : Prop := a = b ∨ lx a b
theorem le.refl (a : List Int) : le a a := .inl rfl
theorem le.trans {a b c : List Int} (h : le a b) (k : le b c) : le a c := by
  rcases h with rfl | h
  · exact k
  · rcases k with rfl | k
    · exact .inr h
    · exact .inr (lx_trans h k)
theorem le.anti {a b : List Int} (h : le a b) (k : le b a) : a = b := by
  rcases h with h | h
  · exact h
  · rcases k with k | k
    · exact k.symm
    · exact absurd (lx_trans h k) (lx_irr a)
theorem le_or {a b : List Int} (h : a.length = b.length) : le a b ∨ lx b a := by
  rcases lx_tri h with k | k | k
  · exact .inl (.inr k)
  · exact .inl (.inl k)
  · exact .inr k
theorem le_cons {a : Int} {l m : List Int} (h : le l m) : le (a :: l) (a :: m) := by
  rcases h with rfl | h
  · exact .inl rfl
  · exact .inr (.inr ⟨rfl, h⟩)
theorem falls_max : ∀ {l q : List Int}, l.Pairwise (· ≥ ·) → q.Perm l → le q l
  | [], q, _, h => by rw [h.eq_nil]; exact .refl _
  | a :: l, [], _, h => by simp at h
  | a :: l, b :: q, hl, h => by
    rw [List.pairwise_cons] at hl
    have hb : b ∈ a :: l := h.subset (by simp)
    have hab : b ≤ a := by
      rcases List.mem_cons.1 hb with e | e
      · omega
      · exact hl.1 b e
    rcases Int.lt_or_eq_of_le hab with e | rfl
    · exact .inr (.inl e)
    · exact le_cons (falls_max hl.2 (List.perm_cons _ |>.1 h))
theorem perm_mid {a : Int} {l m q : List Int} (h : (a :: q).Perm (l ++ a :: m)) : q.Perm (l ++ m) :=
  (List.perm_cons a).1 (h.trans List.perm_middle)
/-- All arrangements. -/
def ins (x : Int) : List Int → List (List Int)
  | [] => [[x]]
  | y :: l => (x :: y :: l) :: (ins x l).map (y :: ·)
def perms : List Int → List (List Int)
  | [] => [[]]
  | x :: l => (perms l).flatMap (ins x)
theorem mem_ins {x : Int} : ∀ {s t : List Int}, s ++ x :: t ∈ ins x (s ++ t)
  | [], [] => by simp [ins]
  | [], y :: t => by simp [ins]
  | y :: s, t => by simp only [List.cons_append, ins, List.mem_cons, List.mem_map]; exact .inr ⟨_, mem_ins, rfl⟩
theorem ins_perm {x : Int} : ∀ {l p : List Int}, p ∈ ins x l → p.Perm (x :: l)
  | [], p, h => by simp [ins] at h; rw [h]
  | y :: l, p, h => by
    simp only [ins, List.mem_cons, List.mem_map] at h
    rcases h with rfl | ⟨q, hq, rfl⟩
    · exact .refl _
    · exact ((ins_perm hq).cons y).trans (.swap x y l)
theorem mem_perms : ∀ {l p : List Int}, p ∈ perms l ↔ p.Perm l
  | [], p => by simp [perms]
  | x :: l, p => by
    simp only [perms, List.mem_flatMap]
    constructor
    · rintro ⟨q, h1, h2⟩
      exact (ins_perm h2).trans ((mem_perms.1 h1).cons x)
    · intro h
      have hx : x ∈ p := h.symm.subset (by simp)
      obtain ⟨s, t, rfl⟩ := List.append_of_mem hx
      exact ⟨s ++ t, mem_perms.2 (perm_mid h.symm).symm, mem_ins⟩
/-- How many arrangements come behind one. -/
def left (l c : List Int) : Nat := (perms l).countP fun p => decide (lx c p)
/-- Better: of lower cost, and of the same cost the first. -/
def bet (c : List Int → Int) (a b : List Int) : Prop := c a < c b ∨ (c a = c b ∧ le a b)
theorem bet.refl (c : List Int → Int) (a : List Int) : bet c a a := .inr ⟨rfl, .refl a⟩
theorem bet.trans {c : List Int → Int} {x y z : List Int} (h : bet c x y) (k : bet c y z) : bet c x z := by
  rcases h with h | ⟨h, h'⟩ <;> rcases k with k | ⟨k, k'⟩
  · exact .inl (by omega)
  · exact .inl (by omega)
  · exact .inl (by omega)
  · exact .inr ⟨by omega, h'.trans k'⟩
theorem bet.anti {c : List Int → Int} {x y : List Int} (h : bet c x y) (k : bet c y x) : x = y := by
  rcases h with h | ⟨h, h'⟩ <;> rcases k with k | ⟨k, k'⟩
  · omega
  · omega
  · omega
  · exact h'.anti k'
instance (a b : List Int) : Decidable (le a b) := inferInstanceAs (Decidable (_ ∨ _))
instance (c : List Int → Int) (a b : List Int) : Decidable (bet c a b) := inferInstanceAs (Decidable (_ ∨ _))
theorem bet_or (c : List Int → Int) {a b : List Int} (h : a.length = b.length) : bet c a b ∨ bet c b a := by
  rcases Int.lt_trichotomy (c a) (c b) with e | e | e
  · exact .inl (.inl e)
  · rcases le_or h with k | k
    · exact .inl (.inr ⟨e, k⟩)
    · exact .inr (.inr ⟨e.symm, .inr k⟩)
  · exact .inr (.inl e)
def pick (c : List Int → Int) (a b : List Int) : List Int := if bet c a b then a else b
def bestS (c : List Int → Int) (l : List Int) : List Int := (perms l).foldl (pick c) l
theorem fold_best (c : List Int → Int) {n : Nat} : ∀ (L : List (List Int)) (a : List Int), a.length = n → (∀ p ∈ L, p.length = n) → (L.foldl (pick c) a ∈ a :: L) ∧ ∀ p ∈ a :: L, bet c (L.foldl (pick c) a) p
  | [], a, _, _ => by simp [bet.refl]
  | b :: L, a, ha, hL => by
    simp only [List.foldl_cons]
    have hb : b.length = n := hL b (by simp)
    have hp : (pick c a b).length = n := by unfold pick; split <;> assumption
    have h1 : pick c a b ∈ [a, b] := by unfold pick; split <;> simp
    have h2 : bet c (pick c a b) a ∧ bet c (pick c a b) b := by
      unfold pick; split
      · exact ⟨.refl _ _, by assumption⟩
      · rename_i h; exact ⟨(bet_or c (ha.trans hb.symm)).resolve_left h, .refl _ _⟩
    obtain ⟨h3, h4⟩ := fold_best c L (pick c a b) hp fun p hp => hL p (by simp [hp])
    have h5 := h4 (pick c a b) (by simp)
    refine ⟨?_, fun p hp => ?_⟩
    · rcases List.mem_cons.1 h3 with e | e
      · rw [e]; simp at h1; simp; rcases h1 with h1 | h1 <;> simp [h1]
      · simp [e]
    · simp only [List.mem_cons] at hp
      rcases hp with rfl | rfl | hp
      · exact h5.trans h2.1
      · exact h5.trans h2.2
      · exact h4 p (by simp [hp])
def IsBest (c : List Int → Int) (l r : List Int) : Prop := r.Perm l ∧ ∀ p, p.Perm l → bet c r p
theorem best_is (c : List Int → Int) (l : List Int) : IsBest c l (bestS c l) := by
  have h := fold_best c (n := l.length) (perms l) l rfl fun p hp => (mem_perms.1 hp).length_eq
  refine ⟨?_, fun p hp => h.2 p (by simp [mem_perms.2 hp])⟩
  rcases List.mem_cons.1 h.1 with e | e
  · unfold bestS; rw [e]
  · exact mem_perms.1 e
theorem IsBest.eq {c : List Int → Int} {l r : List Int} (h : IsBest c l r) : r = bestS c l :=
  (h.2 _ (best_is c l).1).anti ((best_is c l).2 _ h.1)
theorem IsBest.perm {c : List Int → Int} {l m r : List Int} (h : IsBest c l r) (hm : m.Perm l) : IsBest c m r := ⟨h.1.trans hm.symm, fun p hp => h.2 p (hp.trans hm)⟩
/-- The way of cheapest: all up to the arrangement at hand. -/
structure Seen (c : List Int → Int) (l cur b : List Int) : Prop where
  cp : cur.Perm l
  bp : b.Perm l
  bl : le b cur
  all : ∀ p, p.Perm l → le p cur → bet c b p
theorem Seen.done {c : List Int → Int} {l cur b : List Int} (h : Seen c l cur b) (hf : cur.Pairwise (· ≥ ·)) : b = bestS c l :=
  IsBest.eq ⟨h.bp, fun p hp => h.all p hp (falls_max hf (hp.trans h.cp.symm))⟩
theorem Seen.next {c : List Int → Int} {l cur b n : List Int} (h : Seen c l cur b) (hn : n.Perm l) (hlt : lx cur n) (hnx : ∀ p, p.Perm l → lx cur p → le n p) : Seen c l n (if c n < c b then n else b) := by
  have key : ∀ p, p.Perm l → le p n → le p cur ∨ p = n := fun p hp hle => by
    rcases le_or (a := p) (b := cur) (hp.length_eq.trans h.cp.length_eq.symm) with e | e
    · exact .inl e
    · exact .inr (hle.anti (hnx p hp e))
  split
  · rename_i hc
    refine ⟨hn, hn, .refl _, fun p hp hle => ?_⟩
    rcases key p hp hle with e | rfl
    · rcases h.all p hp e with e | ⟨e, -⟩ <;> exact .inl (by omega)
    · exact .refl _ _
  · rename_i hc
    have hbn : le b n := h.bl.trans (.inr hlt)
    refine ⟨hn, h.bp, hbn, fun p hp hle => ?_⟩
    rcases key p hp hle with e | rfl
    · exact h.all p hp e
    · rcases Int.lt_or_eq_of_le (Int.not_lt.1 hc) with e | e
      · exact .inl e
      · exact .inr ⟨e, hbn⟩
end Arr
def df (a b : Int) : Int := max a b - min a b
/-- The steps of a straight row. -/
def stp (l : List Int) : List Int := (List.range (l.length - 1)).map fun i => df (g l i) (g l (i + 1))
theorem mem_stp {l : List Int} {s : Int} : s ∈ stp l ↔ ∃ i, i + 1 < l.length ∧ df (g l i) (g l (i + 1)) = s := by
  simp only [stp, List.mem_map, List.mem_range]
  constructor
  · rintro ⟨i, h, e⟩; exact ⟨i, by omega, e⟩
  · rintro ⟨i, h, e⟩; exact ⟨i, by omega, e⟩
/-- The steps of a box. -/
def stepsS (r : Bool) (l : List Int) : List Int := stp l ++ if r = true ∧ 1 < l.length then [df (g l (l.length - 1)) (g l 0)] else []
def gr (l : List Int) : Int := l.foldl max 0
theorem foldl_max_ge : ∀ (l : List Int) (a : Int), a ≤ l.foldl max a ∧ ∀ x ∈ l, x ≤ l.foldl max a
  | [], a => by simp
  | b :: l, a => by
    have h := foldl_max_ge l (max a b)
    simp only [List.foldl_cons, List.mem_cons]
    refine ⟨by omega, ?_⟩
    rintro x (rfl | hx)
    · omega
    · exact h.2 x hx
theorem gr_nn (l : List Int) : 0 ≤ gr l := (foldl_max_ge l 0).1
theorem le_gr {l : List Int} {x : Int} (h : x ∈ l) : x ≤ gr l := (foldl_max_ge l 0).2 x h
def reachS (n : Nat) (r : Bool) : Nat := if r = true ∧ 2 < n then 2 else 1
/-- How far sorted shades lie apart. -/
def risesS (r : Bool) (s : List Int) : List Int := (List.range (s.length - reachS s.length r)).map fun i => g s (i + reachS s.length r) - g s i
def stepC (r : Bool) (l : List Int) : Int := gr (stepsS r l)
def Asc (l : List Int) : Prop := ∀ i j, i ≤ j → j < l.length → g l i ≤ g l j
theorem asc_of {l : List Int} (h : l.Pairwise (· ≤ ·)) : Asc l := by
  intro i j hij hj
  rcases Nat.lt_or_eq_of_le hij with e | rfl
  · rw [g_lt (by omega), g_lt hj]; exact List.pairwise_iff_getElem.1 h i j _ _ e
  · omega
theorem gmem {l : List Int} {i : Nat} (h : i < l.length) : g l i ∈ l := by rw [g_lt h]; exact List.getElem_mem h
theorem memg {l : List Int} {x : Int} (h : x ∈ l) : ∃ i, i < l.length ∧ g l i = x := by
  obtain ⟨i, hi, e⟩ := List.getElem_of_mem h
  exact ⟨i, hi, by rw [g_lt hi, e]⟩
/-- What stays on one side. -/
theorem side {l : List Int} {A B : Int} (hs : ∀ i, i + 1 < l.length → df (g l i) (g l (i + 1)) < B - A) (hx : ∀ i, i < l.length → g l i ≤ A ∨ B ≤ g l i) (k : Nat) (hk : k < l.length) : ∀ n, k + n < l.length → (g l k ≤ A ↔ g l (k + n) ≤ A)
  | 0, _ => Iff.rfl
  | n + 1, h => by
    have h1 := side hs hx k hk n (by omega)
    have h2 := hs (k + n) (by omega)
    have h3 := hx (k + n) (by omega)
    have h4 := hx (k + n + 1) (by omega)
    rw [h1]
    unfold df at h2
    rw [show k + (n + 1) = k + n + 1 by omega]
    omega
theorem cross {l : List Int} {A B : Int} (hAB : A < B) (hx : ∀ x ∈ l, x ≤ A ∨ B ≤ x) (h1 : ∃ x ∈ l, x ≤ A) (h2 : ∃ x ∈ l, B ≤ x) : ∃ i, i + 1 < l.length ∧ B - A ≤ df (g l i) (g l (i + 1)) := by
  apply Classical.byContradiction
  intro hn
  have hs : ∀ i, i + 1 < l.length → df (g l i) (g l (i + 1)) < B - A := fun i hi => by
    rcases Int.lt_or_le (df (g l i) (g l (i + 1))) (B - A) with e | e
    · exact e
    · exact absurd ⟨i, hi, e⟩ hn
  have hx' : ∀ i, i < l.length → g l i ≤ A ∨ B ≤ g l i := fun i hi => hx _ (gmem hi)
  obtain ⟨x, hx1, e1⟩ := h1
  obtain ⟨y, hy1, e2⟩ := h2
  obtain ⟨i, hi, rfl⟩ := memg hx1
  obtain ⟨j, hj, rfl⟩ := memg hy1
  rcases Nat.le_total i j with e | e
  · have := side hs hx' i hi (j - i) (by omega)
    rw [show i + (j - i) = j by omega] at this
    omega
  · have := side hs hx' j hj (i - j) (by omega)
    rw [show j + (i - j) = i by omega] at this
    omega
/-- A straight part of a box has no steps of its own. -/
theorem round_path {pre suf : List Int} {m : Int} {i : Nat} (h : i + 1 < (suf ++ pre).length) : df (g (suf ++ pre) i) (g (suf ++ pre) (i + 1)) ∈ stepsS true (pre ++ m :: suf) := by
  simp only [List.length_append] at h
  have hL : (pre ++ m :: suf).length = pre.length + 1 + suf.length := by simp; omega
  unfold stepsS
  rw [List.mem_append, mem_stp, hL]
  rw [g_app, g_app]
  by_cases h1 : i + 1 < suf.length
  · refine .inl ⟨pre.length + 1 + i, by omega, ?_⟩
    rw [if_pos (by omega), if_pos h1, g_app, g_app, if_neg (by omega), if_neg (by omega)]
    rw [show pre.length + 1 + i - pre.length = i + 1 by omega, show pre.length + 1 + i + 1 - pre.length = i + 1 + 1 by omega]
    rfl
  · by_cases h2 : i < suf.length
    · rw [if_pos h2, if_neg h1, if_pos (show true = true ∧ 1 < pre.length + 1 + suf.length from ⟨rfl, by omega⟩)]
      refine .inr ?_
      rw [g_app, g_app, if_neg (by omega), if_pos (by omega), List.mem_singleton]
      rw [show pre.length + 1 + suf.length - 1 - pre.length = i + 1 by omega, show i + 1 - suf.length = 0 by omega]
      rfl
    · refine .inl ⟨i - suf.length, by omega, ?_⟩
      rw [if_neg h2, if_neg h1, g_app, g_app, if_pos (by omega), if_pos (by omega), show i + 1 - suf.length = i - suf.length + 1 by omega]
/-- No arrangement is below what two sorted shades prove. -/
theorem lower {r : Bool} {l s p : List Int} (hs : s.Pairwise (· ≤ ·)) (hsl : s.Perm l) (hp : p.Perm l) {i : Nat} (hi : i + reachS s.length r < s.length) : g s (i + reachS s.length r) - g s i ≤ stepC r p := by
  have hps : p.Perm s := hp.trans hsl.symm
  have hA := asc_of hs
  rcases Int.lt_or_le (g s i) (g s (i + reachS s.length r)) with hlt | hle
  case inr => have := gr_nn (stepsS r p); unfold stepC; omega
  unfold reachS at *
  split at hi
  · rename_i hc
    rw [if_pos hc] at hlt ⊢
    obtain ⟨rfl, hc⟩ := hc
    have hm : g s (i + 1) ∈ p := hps.mem_iff.2 (gmem (by omega))
    obtain ⟨pre, suf, rfl⟩ := List.append_of_mem hm
    have hd : s.Perm (g s (i + 1) :: (suf ++ pre)) := hps.symm.trans (List.perm_middle.trans (List.perm_append_comm.cons _))
    have hs2 : s.Perm (g s (i + 1) :: (s.take (i + 1) ++ s.drop (i + 2))) := by
      have e : s = s.take (i + 1) ++ g s (i + 1) :: s.drop (i + 2) := by
        have h1 : i + 1 < s.length := by omega
        rw [g_lt h1]
        rw [← List.drop_eq_getElem_cons h1, List.take_append_drop]
      exact (List.Perm.of_eq e).trans List.perm_middle
    have hq : (suf ++ pre).Perm (s.take (i + 1) ++ s.drop (i + 2)) := (List.perm_cons _).1 (hd.symm.trans hs2)
    obtain ⟨k, hk, hle⟩ := cross (l := suf ++ pre) (A := g s i) (B := g s (i + 2)) hlt (fun x hx => by
        rcases List.mem_append.1 (hq.mem_iff.1 hx) with hx | hx
        · obtain ⟨j, hj, rfl⟩ := memg hx
          simp at hj
          rw [g_take (by omega)]; exact .inl (hA _ _ (by omega) (by omega))
        · obtain ⟨j, hj, rfl⟩ := memg hx
          simp at hj
          rw [g_drop]; exact .inr (hA _ _ (by omega) (by omega)))
      ⟨g s i, hq.mem_iff.2 (List.mem_append.2 (.inl (by rw [← g_take (show i < i + 1 by omega)]; exact gmem (by simp; omega)))), Int.le_refl _⟩
      ⟨g s (i + 2), hq.mem_iff.2 (List.mem_append.2 (.inr (by have := g_drop s (i + 2) 0; rw [Nat.add_zero] at this; rw [← this]; exact gmem (by simp; omega)))), Int.le_refl _⟩
    exact Int.le_trans hle (le_gr (round_path hk))
  · rename_i hc
    rw [if_neg hc] at hlt ⊢
    obtain ⟨k, hk, hle⟩ := cross (l := p) (A := g s i) (B := g s (i + 1)) hlt (fun x hx => by
        obtain ⟨j, hj, rfl⟩ := memg (hps.mem_iff.1 hx)
        rcases Nat.lt_or_ge i j with e | e
        · exact .inr (hA _ _ (by omega) hj)
        · exact .inl (hA _ _ e (by omega)))
      ⟨g s i, hps.mem_iff.2 (gmem (by omega)), Int.le_refl _⟩ ⟨g s (i + 1), hps.mem_iff.2 (gmem (by omega)), Int.le_refl _⟩
    refine Int.le_trans hle (le_gr ?_)
    unfold stepsS
    exact List.mem_append.2 (.inl (mem_stp.2 ⟨k, hk, rfl⟩))
/-- Every second one. -/
def ev : List Int → List Int
  | [] => []
  | [a] => [a]
  | a :: _ :: l => a :: ev l
def od : List Int → List Int
  | [] => []
  | [_] => []
  | _ :: b :: l => b :: od l
def zig (l : List Int) : List Int := ev l ++ (od l).reverse
end Go.Proofs.YticlfkmjmhjiaaaGreatDoor

/- Ported: Sm. -/
namespace Go.Proofs.YticlfkmjmhjiaaaGreatDoor
open Go Go.Proofs.YticlfkmjmhjiaaaGreatDoor.AX

def lenE (n : Nat) (m : Int) : Int := if n = 0 then 4 else if m < n then 3 else 0
/-- The error of shades. -/
def shE (l : List Int) : Int := if l.length = 0 then 4 else if 7 < l.length then 3 else if l.all (fun x => decide (0 ≤ x ∧ x ≤ 60)) = true then 0 else 1
/-- Numbers of a list that are small. -/
def Bd (M : Int) (l : List Int) : Prop := ∀ x ∈ l, -M ≤ x ∧ x ≤ M
theorem Bd.g {M : Int} {l : List Int} (h : Bd M l) {i : Nat} (hi : i < l.length) : -M ≤ Go.Proofs.YticlfkmjmhjiaaaGreatDoor.g l i ∧ Go.Proofs.YticlfkmjmhjiaaaGreatDoor.g l i ≤ M := h _ (gmem hi)
theorem sum_take {l : List Int} {i : Nat} (hi : i < l.length) : (l.take (i + 1)).sum = (l.take i).sum + g l i := by
  rw [List.take_add_one, List.getElem?_eq_getElem hi, Option.toList_some, List.sum_append, g_lt hi]
  simp
theorem sum_bd {M : Int} (hM : 0 ≤ M) : ∀ {l : List Int}, Bd M l → -(M * l.length) ≤ l.sum ∧ l.sum ≤ M * l.length
  | [], _ => by simp
  | a :: l, h => by
    have h1 := h a (by simp)
    have h2 := sum_bd hM (l := l) fun x hx => h x (by simp [hx])
    simp only [List.sum_cons, List.length_cons]
    have : M * ((l.length + 1 : Nat) : Int) = M * l.length + M := by
      rw [show ((l.length + 1 : Nat) : Int) = (l.length : Int) + 1 by omega, Int.mul_add, Int.mul_one]
    omega
theorem sum_small {M : Int} {l : List Int} (h0 : 0 ≤ M) (h : Bd M l) (hM : M ≤ 1000000000) (hl : l.length ≤ 1000000) : -1000000000000000 ≤ l.sum ∧ l.sum ≤ 1000000000000000 := by
  have h1 := sum_bd h0 h
  have h2 : M * (l.length : Int) ≤ 1000000000 * 1000000 := Int.mul_le_mul hM (by omega) (by omega) (by omega)
  omega
theorem Bd.take {M : Int} {l : List Int} (h : Bd M l) (i : Nat) : Bd M (l.take i) := fun x hx => h x (List.mem_of_mem_take hx)
theorem total_ac (v : AV) (l : List Int) (H : AH) (Q : AV → AH → Prop) (hlen : l.length ≤ 1000000) (hb : Bd 1000000000 l) (hv : Ls H v l) (h : Q (.int .i64 l.sum) H) : AC Tryz.prog 36 [v] H Q := by
  have hl := ls_len hv
  refine L_body 17 Tryz.func36 rfl rfl ?_
  refine L_reg [0] (fun K hK => ?_)
  simp
  apply hK; clear hK K
  refine L_reg [0, 3] (fun K hK => ?_)
  simp
  apply hK; clear hK K
  refine L_reg [3, 6, 7, 8] (fun K hK => ?_)
  simp [hl]
  apply hK; clear hK K
  refine L_block (L_loopV [3, 8] (fun n vs H' => ∃ i : Nat, n = l.length - i ∧ i ≤ l.length ∧ vs = [.int .i64 (l.take i).sum, .int .i64 i] ∧ H = H') _ [.int .i64 0, .int .i64 0] rfl ⟨0, rfl, by omega, rfl, rfl⟩ ?_)
  rintro n _ _ ⟨i, rfl, hi, rfl, rfl⟩
  refine L_reg [3, 6, 7, 8, 9] (fun K hK => ?_)
  simp
  apply hK; clear hK K
  refine L_dec (i < l.length) (by simp) (fun hlt => ?_) (fun hge => L_exit ?_)
  · refine L_block ?_
    obtain ⟨rz, pz, vz, hix, hld⟩ := ls_ix hv hlt
    have hs := sum_small (by decide) (hb.take (i + 1)) (by decide) (by simp; omega)
    rw [sum_take hlt] at hs
    refine L_reg [3, 5, 6, 7, 8] (fun K hK => ?_)
    simp [hix, hld]
    apply hK; clear hK K
    refine L_reg [3, 6, 7, 8] (fun K hK => ?_)
    simp [wrap_i64 (a := (l.take i).sum + g l i) (by omega)]
    apply hK; clear hK K
    refine L_reg [3, 6, 7, 8] (fun K hK => ?_)
    simp [wrap_i64 (a := (i : Int) + 1) (by omega)]
    apply hK; clear hK K
    exact ⟨l.length - (i + 1), [.int .i64 (l.take (i + 1)).sum, .int .i64 (i + 1 : Nat)], by omega, by simp [sum_take hlt], i + 1, rfl, by omega, rfl, rfl⟩
  · rw [List.take_of_length_le (by omega)]
    refine L_reg [2] (fun K hK => ?_)
    simp
    apply hK; clear hK K
    exact L_ret ⟨.inr rfl, _, rfl, h⟩
end Go.Proofs.YticlfkmjmhjiaaaGreatDoor

/- Ported: Stp. -/
namespace Go.Proofs.YticlfkmjmhjiaaaGreatDoor
open Go Go.Proofs.YticlfkmjmhjiaaaGreatDoor.AX

def sumC (r : Bool) (l : List Int) : Int := (stepsS r l).sum
end Go.Proofs.YticlfkmjmhjiaaaGreatDoor

/- Ported: Nb. -/
namespace Go.Proofs.YticlfkmjmhjiaaaGreatDoor
open Go Go.Proofs.YticlfkmjmhjiaaaGreatDoor.AX

/-- The pairs of neighbours. -/
def prs (r : Bool) (l : List Int) : List (Int × Int) := ((List.range (l.length - 1)).map fun i => (g l i, g l (i + 1))) ++ if r = true ∧ 1 < l.length then [(g l (l.length - 1), g l 0)] else []
theorem prs_at {r : Bool} {l : List Int} {i : Nat} (h : i + 1 < l.length) : (prs r l)[i]? = some (g l i, g l (i + 1)) := by
  unfold prs
  rw [List.getElem?_append_left (by simp; omega), List.getElem?_map, List.getElem?_range (by omega)]
  rfl
theorem prs_last {l : List Int} (h : 1 < l.length) : (prs true l)[l.length - 1]? = some (g l (l.length - 1), g l 0) := by
  unfold prs
  rw [List.getElem?_append_right (by simp), if_pos ⟨rfl, h⟩]
  simp
theorem prs_lenF {r : Bool} {l : List Int} (h : ¬ (r = true ∧ 1 < l.length)) : (prs r l).length = l.length - 1 := by
  unfold prs
  rw [if_neg h]; simp
theorem prs_lenT {l : List Int} (h : 1 < l.length) : (prs true l).length = l.length - 1 + 1 := by
  unfold prs
  rw [if_pos ⟨rfl, h⟩]; simp
set_option maxRecDepth 100000 in
theorem nb1_ac (rr pl pr : Nat) (v : AV) (l : List Int) (r : Bool) (J : Nat → AH → Prop) (Z : AH → Prop) (H : AH) (Q : AV → AH → Prop) (hlen : l.length ≤ 1000000)
    (hv : ∀ k H, J k H → (∃ s, H[pl]? = some (.row [v] 0 s false)) ∧ (∃ s, H[pr]? = some (.row [.bool r] 0 s false)) ∧ Ls H v l)
    (hy : ∀ k a b H, (prs r l)[k]? = some (a, b) → J k H → AYld Tryz.prog rr [.int .i64 a, .int .i64 b] H fun u H' => ∃ t, u = .bool t ∧ if t = true then J (k + 1) H' else Z H')
    (hJ : J 0 H) (h1 : ∀ H', J (prs r l).length H' → Q (.tuple []) H') (h2 : ∀ H', Z H' → Q (.tuple []) H') : AC Tryz.prog 54 [.yld rr, .ptr pl 0 0, .ptr pr 0 0] H Q := by
  refine L_body 40 Tryz.func54 rfl rfl ?_
  refine L_reg [0, 1, 2, 4] (fun K hK => ?_)
  simp
  apply hK; clear hK K
  refine L_block (L_loopV [4] (fun n vs H' => ∃ i : Nat, n = l.length - i ∧ 1 ≤ i ∧ (i ≤ l.length ∨ i = 1) ∧ vs = [.int .i64 i] ∧ J (i - 1) H') _ [.int .i64 1] rfl ⟨1, rfl, by omega, by omega, rfl, hJ⟩ ?_)
  rintro n _ H1 ⟨i, rfl, hi1, hi, rfl, hJ1⟩
  obtain ⟨⟨s1, q1⟩, ⟨s2, q2⟩, hv1⟩ := hv _ _ hJ1
  have e1 : ld H1 pl 0 0 = some v := by
    obtain ⟨r0, off, ver, sz, full, rfl, -⟩ := id hv1
    rw [ld_row q1]; rfl
  have e2 : ld H1 pr 0 0 = some (.bool r) := by rw [ld_row q2]; rfl
  have hl := ls_len hv1
  refine L_reg [0, 1, 2, 4, 8] (fun K hK => ?_)
  simp [e1, hl]
  apply hK; clear hK K
  refine L_dec (i < l.length) (by simp) (fun hlt => ?_) (fun hge => L_exit ?_)
  · refine L_block ?_
    obtain ⟨rz, pz, vz, hix, hld⟩ := ls_ix hv1 (i := i - 1) (by omega)
    obtain ⟨ry, py, vy, hiy, hldy⟩ := ls_ix hv1 hlt
    have e3 : (i : Int) - 1 = ((i - 1 : Nat) : Int) := by omega
    have hp := prs_at (r := r) (l := l) (i := i - 1) (by omega)
    rw [show i - 1 + 1 = i by omega] at hp
    refine L_regM mixed 10 [0, 1, 2, 4, 22] (by decide) (by kernel_rfl) (fun K hK => ?_)
    simp [e1, e3, wrap_i64 (a := ((i - 1 : Nat) : Int)) (by omega), hix, hld, hiy, hldy]
    refine (hy _ _ _ _ hp hJ1).mono ?_
    rintro _ H2 ⟨t, rfl, ht⟩
    simp
    apply hK; clear hK K
    cases t with
    | false =>
      refine L_true rfl ?_
      exact L_ret ⟨.inr rfl, _, rfl, h2 _ (by simpa using ht)⟩
    | true =>
      refine L_false rfl ?_
      refine L_reg [0, 1, 2, 4] (fun K hK => ?_)
      simp [wrap_i64 (a := (i : Int) + 1) (by omega)]
      apply hK; clear hK K
      refine ⟨l.length - (i + 1), [.int .i64 (i + 1 : Nat)], by omega, by simp, i + 1, rfl, by omega, by omega, rfl, ?_⟩
      rw [show i + 1 - 1 = i - 1 + 1 by omega]
      simpa using ht
  · by_cases hr : r = true ∧ 1 < l.length
    · obtain ⟨rfl, hn⟩ := hr
      have hi' : i = l.length := by omega
      subst hi'
      have e4 : decide ((1 : Int) < l.length) = true := by simp; omega
      refine L_reg [0, 1, 28] (fun K hK => ?_)
      simp [e1, e2, hl, e4, pickV]
      apply hK; clear hK K
      refine L_true rfl ?_
      obtain ⟨rz, pz, vz, hix, hld⟩ := ls_ix hv1 (i := l.length - 1) (by omega)
      obtain ⟨ry, py, vy, hiy, hldy⟩ := ls_ix hv1 (i := 0) (by omega)
      have hiy0 : ∀ k, aIndexAddr Tryz.prog 26 v (.int k 0) = some (.ptr ry py vy) := hiy
      have e3 : (l.length : Int) - 1 = ((l.length - 1 : Nat) : Int) := by omega
      refine L_regM mixed 10 [] (by decide) (by kernel_rfl) (fun K hK => ?_)
      simp [e1, hl, e3, wrap_i64 (a := ((l.length - 1 : Nat) : Int)) (by omega), hix, hld, hiy0, hldy]
      refine (hy _ _ _ _ (prs_last hn) hJ1).mono ?_
      rintro _ H2 ⟨t, rfl, ht⟩
      simp
      apply hK; clear hK K
      refine ⟨.inl rfl, _, rfl, ?_⟩
      cases t with
      | false => exact h2 _ (by simpa using ht)
      | true => exact h1 _ (by rw [prs_lenT hn]; simpa using ht)
    · have hq : Q (.tuple []) H1 := h1 _ (by rw [prs_lenF hr, show l.length - 1 = i - 1 by omega]; exact hJ1)
      cases r with
      | false =>
        refine L_reg [0, 1, 28] (fun K hK => ?_)
        simp [e2, pickV]
        apply hK; clear hK K
        refine L_false rfl ?_
        exact ⟨.inl rfl, _, rfl, hq⟩
      | true =>
        have hn1 : ¬ 1 < l.length := fun h => hr ⟨rfl, h⟩
        have e4 : decide ((1 : Int) < l.length) = false := by simp; omega
        refine L_reg [0, 1, 28] (fun K hK => ?_)
        simp [e1, e2, hl, e4, pickV]
        apply hK; clear hK K
        refine L_false rfl ?_
        exact ⟨.inl rfl, _, rfl, hq⟩
theorem nbs_ac (r0 : Option Nat) (off n ver sz : Nat) (full r : Bool) (H : AH) (Q : AV → AH → Prop) (h : Q (.func (.func 54) [] [.ptr H.length 0 0, .ptr (H.length + 1) 0 0]) (H ++ [.row [.slice r0 off n ver sz full] 0 0 false] ++ [.row [.bool r] 0 0 false])) : AC Tryz.prog 41 [.slice r0 off n ver sz full, .bool r] H Q := by
  refine L_body 6 Tryz.func41 rfl rfl ?_
  refine L_reg [2, 3] (fun K hK => ?_)
  simp [AV.isU, acells]
  apply hK; clear hK K
  refine L_reg [4] (fun K hK => ?_)
  simp
  apply hK; clear hK K
  exact L_ret ⟨.inr rfl, _, rfl, by simpa using h⟩
theorem set_ne {H : AH} {i j : Nat} {o : AObj} (h : i ≠ j) : (H.set i o)[j]? = H[j]? := List.getElem?_set_ne h
theorem Rw.set_ne {r ver j : Nat} {H : AH} {c : List Int} {o : AObj} (h : Rw r ver H c) (hj : j ≠ r) : Rw r ver (H.set j o) c := by
  obtain ⟨s, h⟩ := h
  exact ⟨s, by rw [Go.Proofs.YticlfkmjmhjiaaaGreatDoor.set_ne hj]; exact h⟩
theorem Rw.keep {r ver w : Nat} {H H' : AH} {c : List Int} (h : Rw r ver H c) (hk : KeepX w H H') (hr : r ≠ w) : Rw r ver H' c := by
  obtain ⟨s, h⟩ := h
  exact ⟨s, hk.row hr h⟩
end Go.Proofs.YticlfkmjmhjiaaaGreatDoor

/- Ported: Adv. -/
namespace Go.Proofs.YticlfkmjmhjiaaaGreatDoor
open Go Go.Proofs.YticlfkmjmhjiaaaGreatDoor.AX

def NextOf (c d : List Int) : Prop := d.Perm c ∧ Arr.lx c d ∧ ∀ p, p.Perm c → Arr.lx c p → Arr.le d p
@[simp] theorem s_isc_copy (xs : Array Operand) (ts : Array TypeId) : isFnCall (.call ⟨.builtin .copy, xs, ts⟩) = false := rfl
@[simp] theorem x_copy {P : Program} {H : AH} {ρ : Operand → AV} (x y : Operand) (t u : TypeId) : execN P ρ H (.call ⟨.builtin .copy, #[x, y], #[t, u]⟩) = appV (aCopy P H t (ρ x) (ρ y)) := by
  have : execN P ρ H (.call ⟨.builtin .copy, #[x, y], #[t, u]⟩) = (aCopy P H t (ρ x) (ρ y)).map fun p => (some p.1, p.2) := rfl
  rw [this]
  cases aCopy P H t (ρ x) (ρ y) <;> rfl
theorem eq_nil {l : Bool} (r : Option Nat) (off n ver sz : Nat) (full : Bool) : binV Tryz.prog .eql 26 l (.slice r off n ver sz full) (.slice none 0 0 0 1 false) = some (.bool r.isNone) := by
  simp [binV, aBin, aCmp]
end Go.Proofs.YticlfkmjmhjiaaaGreatDoor

/- Ported: Pub. -/
namespace Go.Proofs.YticlfkmjmhjiaaaGreatDoor
open Go Go.Proofs.YticlfkmjmhjiaaaGreatDoor.AX

/-- The first place of a number in a list, or -1. -/
def idx (x : Int) : List Int → Int
  | [] => -1
  | y :: l => if x = y then 0 else (if idx x l = -1 then -1 else idx x l + 1)
theorem idx_ge (x : Int) : ∀ l, -1 ≤ idx x l
  | [] => by simp [idx]
  | y :: l => by
    have := idx_ge x l
    simp only [idx]
    split
    · omega
    · split <;> omega
theorem idx_drop {x : Int} {l : List Int} {i : Nat} (hi : i < l.length) (hne : g l i ≠ x) : idx x (l.drop i) = if idx x (l.drop (i + 1)) = -1 then -1 else idx x (l.drop (i + 1)) + 1 := by
  rw [List.drop_eq_getElem_cons hi, ← g_lt hi]
  simp only [idx]
  rw [if_neg (fun e => hne e.symm)]
theorem idx_here {x : Int} {l : List Int} {i : Nat} (hi : i < l.length) (h : g l i = x) : idx x (l.drop i) = 0 := by
  rw [List.drop_eq_getElem_cons hi, ← g_lt hi]
  simp only [idx]
  rw [if_pos h.symm]
/-- The same, from a place on. -/
def off (i : Nat) (y : Int) : Int := if y = -1 then -1 else i + y
theorem off_step {x : Int} {l : List Int} {i : Nat} (hi : i < l.length) (hne : g l i ≠ x) : off i (idx x (l.drop i)) = off (i + 1) (idx x (l.drop (i + 1))) := by
  rw [idx_drop hi hne]
  have := idx_ge x (l.drop (i + 1))
  unfold off
  generalize idx x (l.drop (i + 1)) = y at *
  by_cases h : y = -1
  · simp [h]
  · rw [if_neg h, if_neg h, if_neg (by omega)]; omega
theorem Index_ac (v : AV) (l : List Int) (x : Int) (H : AH) (Q : AV → AH → Prop) (hlen : l.length ≤ 1000000) (hv : Ls H v l) (h : Q (.int .i64 (idx x l)) H) : AC Tryz.prog 40 [v, .int .i64 x] H Q := by
  obtain ⟨r, of, ver, sz, full, rfl, hld⟩ := hv
  refine L_body 19 Tryz.func40 rfl rfl ?_
  refine L_reg [0, 1] (fun K hK => ?_)
  simp
  apply hK; clear hK K
  refine L_reg [0, 1, 7, 8] (fun K hK => ?_)
  simp
  apply hK; clear hK K
  refine L_block (L_loopV [8] (fun n vs H' => ∃ i : Nat, n = l.length - i ∧ i ≤ l.length ∧ off i (idx x (l.drop i)) = idx x l ∧ vs = [.int .i64 i] ∧ H = H') _ [.int .i64 0] rfl ⟨0, rfl, by omega, by unfold off; rw [List.drop_zero]; split <;> omega, rfl, rfl⟩ ?_)
  rintro n _ _ ⟨i, rfl, hi, hno, rfl, rfl⟩
  refine L_reg [0, 1, 7, 8, 9] (fun K hK => ?_)
  simp
  apply hK; clear hK K
  refine L_dec (i < l.length) (by simp) (fun hlt => ?_) (fun hge => L_exit ?_)
  · refine L_block ?_
    obtain ⟨r', rfl, rfl, hrd⟩ := hld i hlt
    rw [← g_lt hlt] at hrd
    refine L_reg [0, 1, 5, 7, 8] (fun K hK => ?_)
    simp
    apply hK; clear hK K
    refine L_reg [0, 1, 5, 7, 8, 16] (fun K hK => ?_)
    simp [hrd, hlt]
    apply hK; clear hK K
    by_cases e : x = g l i
    · refine L_true (by simp [← e]) ?_
      rw [idx_here hlt e.symm] at hno
      have e3 : off i 0 = i := by unfold off; rw [if_neg (by omega)]; omega
      rw [e3] at hno
      rw [← hno] at h
      refine L_reg [4] (fun K hK => ?_)
      simp
      apply hK; clear hK K
      exact L_ret ⟨.inr rfl, _, rfl, h⟩
    · refine L_false (by simp [e]) ?_
      rw [off_step hlt (fun h => e h.symm)] at hno
      refine L_reg [0, 1, 7, 8] (fun K hK => ?_)
      simp [wrap_i64 (a := (i : Int) + 1) (by omega)]
      apply hK; clear hK K
      exact ⟨l.length - (i + 1), [.int .i64 (i + 1 : Nat)], by omega, by simp, i + 1, rfl, by omega, hno, rfl, rfl⟩
  · have hi' : i = l.length := by omega
    subst hi'
    rw [List.drop_length] at hno
    rw [← hno] at h
    refine L_reg [4] (fun K hK => ?_)
    simp
    apply hK; clear hK K
    exact L_ret ⟨.inr rfl, _, rfl, h⟩
/-- Sorted. -/
def insA (x : Int) : List Int → List Int
  | [] => [x]
  | y :: l => if x ≤ y then x :: y :: l else y :: insA x l
def srt : List Int → List Int
  | [] => []
  | x :: l => insA x (srt l)
def rsS (r : Bool) (l : List Int) : List Int := risesS r (srt l)
theorem Bd.perm {M : Int} {l m : List Int} (h : Bd M l) (hp : m.Perm l) : Bd M m := fun x hx => h x (hp.mem_iff.1 hx)
def wideS (r : Bool) (l : List Int) : List Int := Arr.bestS (fun p => -sumC r p) l
def boxS (r : Bool) (l : List Int) : List Int := Arr.bestS (stepC r) l
def orNil (e : Int) (l : List Int) : List Int := if e = 0 then l else []
def whyE (l : List Int) : Int := if shE l = 0 then (if l.length = 1 then 12 else 0) else shE l
def whyS (r : Bool) (l : List Int) : Int := if whyE l = 0 then idx (gr (rsS r l)) (rsS r l) else 0
def provE (l : List Int) (r : Bool) (i s : Int) : Int := if shE l = 0 then (if 0 ≤ i ∧ i < (rsS r l).length then (if g (rsS r l) i.toNat < s then 14 else 0) else 1) else shE l
end Go.Proofs.YticlfkmjmhjiaaaGreatDoor

/- Ported: Ref. -/
namespace Go.Proofs.YticlfkmjmhjiaaaGreatDoor
open Go Go.Proofs.YticlfkmjmhjiaaaGreatDoor.AX

def wo (l : List Int) (i : Nat) : List Int := l.take i ++ l.drop (i + 1)
theorem wo_len {l : List Int} {i : Nat} (h : i < l.length) : (wo l i).length = l.length - 1 := by simp [wo]; omega
theorem wo_perm {l : List Int} {i : Nat} (h : i < l.length) : (g l i :: wo l i).Perm l := by
  have e : l = l.take i ++ g l i :: l.drop (i + 1) := by
    rw [g_lt h, ← List.drop_eq_getElem_cons h, List.take_append_drop]
  exact List.perm_middle.symm.trans (List.Perm.of_eq e.symm)
def allS : Nat → List Int → List Int → List (List Int)
  | 0, begun, _ => [begun]
  | n + 1, begun, left => (List.range left.length).flatMap fun i => if g left i ∈ left.take i then [] else allS n (begun ++ [g left i]) (wo left i)
theorem mem_allS : ∀ (n : Nat) (begun left p : List Int), left.length = n → (p ∈ allS n begun left ↔ ∃ q, q.Perm left ∧ p = begun ++ q)
  | 0, begun, left, p, h => by
    have : left = [] := List.eq_nil_of_length_eq_zero h
    subst this
    simp [allS]
  | n + 1, begun, left, p, h => by
    simp only [allS, List.mem_flatMap, List.mem_range]
    constructor
    · rintro ⟨i, hi, hp⟩
      split at hp
      · simp at hp
      · obtain ⟨q, hq, rfl⟩ := (mem_allS n _ _ p (by rw [wo_len hi]; omega)).1 hp
        exact ⟨g left i :: q, (hq.cons _).trans (wo_perm hi), by simp⟩
    · rintro ⟨q, hq, rfl⟩
      cases q with
      | nil => have := hq.length_eq; simp at this; omega
      | cons x q =>
        have hx : x ∈ left := hq.subset (by simp)
        obtain ⟨xs, ys, e, hn⟩ := List.eq_append_cons_of_mem hx
        have hi : xs.length < left.length := by rw [e]; simp
        have hg : g left xs.length = x := by rw [g_lt hi]; simp [e]
        have ht : left.take xs.length = xs := by rw [e]; simp
        refine ⟨xs.length, hi, ?_⟩
        rw [hg, ht, if_neg hn]
        refine (mem_allS n _ _ _ (by rw [wo_len hi]; omega)).2 ⟨q, ?_, by simp⟩
        have := hq.trans (wo_perm hi).symm
        rw [hg] at this
        exact (List.perm_cons x).1 this
def fac : Nat → Nat
  | 0 => 1
  | n + 1 => (n + 1) * fac n
/-- Those found up to a place. -/
def upTo (n : Nat) (begun left : List Int) (i : Nat) : List (List Int) := (List.range i).flatMap fun i => if g left i ∈ left.take i then [] else allS n (begun ++ [g left i]) (wo left i)
def srtR (l : List Int) (m : Nat) : List Int := (List.range m).flatMap fun (n : Nat) => l.filter fun x => decide (x = (n : Int))
end Go.Proofs.YticlfkmjmhjiaaaGreatDoor

/- Ported: AllR. -/
namespace Go.Proofs.YticlfkmjmhjiaaaGreatDoor
open Go Go.Proofs.YticlfkmjmhjiaaaGreatDoor.AX

/-- A list read from a row that is not below B and not the row that is left out. -/
def LsBX (B : Nat) (ex : Option Nat) (H : AH) (v : AV) (l : List Int) : Prop :=
  ∃ rr off ver sz full, v = .slice rr off l.length ver sz full ∧ ∀ i (h : i < l.length), ∃ r', rr = some r' ∧ sz = 1 ∧ B ≤ r' ∧ ex ≠ some r' ∧ ld H r' (off + i) ver = some (.int .i64 l[i])
theorem LsBX.ls {B : Nat} {ex : Option Nat} {H : AH} {v : AV} {l : List Int} (h : LsBX B ex H v l) : Ls H v l := by
  obtain ⟨rr, off, ver, sz, full, e, h⟩ := h
  exact ⟨rr, off, ver, sz, full, e, fun i hi => by obtain ⟨r', a, b, -, -, c⟩ := h i hi; exact ⟨r', a, b, c⟩⟩
theorem LsBX.one {B : Nat} {ex : Option Nat} {H : AH} {v : AV} {l : List Int} (h : LsBX B ex H v l) : v.one = true := by
  obtain ⟨rr, off, ver, sz, full, rfl, -⟩ := h; rfl
theorem LsBX.keep {B C : Nat} {ex ex2 : Option Nat} {H H' : AH} {v : AV} {l : List Int} (h : LsBX B ex H v l) (hB : C ≤ B) (hk : ∀ j, B ≤ j → j < H.length → ex ≠ some j → H'[j]? = H[j]?) (he : ∀ j, B ≤ j → j < H.length → ex ≠ some j → ex2 ≠ some j) : LsBX C ex2 H' v l := by
  obtain ⟨rr, off, ver, sz, full, e, h⟩ := h
  refine ⟨rr, off, ver, sz, full, e, fun i hi => ?_⟩
  obtain ⟨r', a, b, c, d, f⟩ := h i hi
  have hlt := ld_lt f
  refine ⟨r', a, b, by omega, he r' c hlt d, ?_⟩
  have := hk r' c hlt d
  unfold ld at f ⊢
  rw [this]; exact f
/-- A list of lists of its own: no element lies in its row. -/
def LssB (B N : Nat) (H : AH) (v : AV) (L : List (List Int)) : Prop :=
  ∃ vs, OwnF N H v vs ∧ vs.length = L.length ∧ ∀ i (h : i < L.length), ∃ w, vs[i]? = some w ∧ LsBX B (rowOf v) H w L[i]
theorem LssB.nil (B N : Nat) (H : AH) : LssB B N H (.slice none 0 0 0 1 false) [] := ⟨[], .nil _ _, rfl, fun i h => by simp at h⟩
theorem LssB.ext {B N : Nat} {H H' : AH} {v : AV} {L : List (List Int)} (h : LssB B N H v L) (hE : Ext H H') : LssB B N H' v L := by
  obtain ⟨vs, h1, h2, h3⟩ := h
  refine ⟨vs, ownF_ext h1 hE, h2, fun i hi => ?_⟩
  obtain ⟨w, a, b⟩ := h3 i hi
  exact ⟨w, a, b.keep (Nat.le_refl _) (fun j _ hj _ => hE.2 j hj) fun j _ _ e => e⟩
theorem known_one {x : AV} (h : x.one = true) : known (some x) = some x := by
  cases x <;> simp [AV.one] at h <;> rfl
end Go.Proofs.YticlfkmjmhjiaaaGreatDoor

/- Ported: PubR. -/
namespace Go.Proofs.YticlfkmjmhjiaaaGreatDoor
open Go Go.Proofs.YticlfkmjmhjiaaaGreatDoor.AX

/-- The best of some arrangements. -/
def BestOf (c : List Int → Int) (L : List (List Int)) (b : List Int) : Prop := b ∈ L ∧ ∀ p ∈ L, Arr.bet c b p
theorem BestOf.all {c : List Int → Int} {l b : List Int} (h : BestOf c (allS l.length [] l) b) : b = Arr.bestS c l := by
  refine Arr.IsBest.eq ⟨?_, fun p hp => h.2 p ((mem_allS l.length [] l p rfl).2 ⟨p, hp, rfl⟩)⟩
  obtain ⟨q, hq, e⟩ := (mem_allS l.length [] l b rfl).1 h.1
  rw [e]; exact hq
end Go.Proofs.YticlfkmjmhjiaaaGreatDoor

/- Ported: PubR2. -/
namespace Go.Proofs.YticlfkmjmhjiaaaGreatDoor
open Go Go.Proofs.YticlfkmjmhjiaaaGreatDoor.AX

theorem idx_mem {x : Int} : ∀ {l : List Int}, x ∈ l → 0 ≤ idx x l
  | y :: l, h => by
    simp only [idx]
    split
    · omega
    · rename_i hne
      have : x ∈ l := by
        rcases List.mem_cons.1 h with e | e
        · exact absurd e hne
        · exact e
      have := idx_mem this
      split <;> omega
theorem idx_get {x : Int} : ∀ {l : List Int} {p : Nat}, idx x l = p → p < l.length ∧ g l p = x
  | [], p, h => by simp only [idx] at h; omega
  | y :: l, p, h => by
    simp only [idx] at h
    split at h
    · rename_i e
      have : p = 0 := by omega
      subst this
      exact ⟨by simp, by simp [g, e]⟩
    · split at h
      · omega
      · have h0 := idx_ge x l
        obtain ⟨q, hq⟩ : ∃ q : Nat, idx x l = q := ⟨(idx x l).toNat, by omega⟩
        obtain ⟨h1, h2⟩ := idx_get hq
        have : p = q + 1 := by omega
        subst this
        exact ⟨by simp; omega, by simpa [g] using h2⟩
end Go.Proofs.YticlfkmjmhjiaaaGreatDoor

/- Ported: Turn. -/
namespace Go.Proofs.YticlfkmjmhjiaaaGreatDoor
open Go Go.Proofs.YticlfkmjmhjiaaaGreatDoor.AX
theorem isNaN_ac (a : Int) (H : AH) (Q : AV → AH → Prop) (h : Q (.bool false) H) : AC Tryz.prog 55 [.int .i64 a] H Q := by
  refine L_body 6 Tryz.func55 rfl rfl ?_
  refine L_reg [0] (fun K hK => ?_)
  simp
  apply hK; clear hK K
  refine L_reg [2] (fun K hK => ?_)
  simp
  apply hK; clear hK K
  exact L_ret ⟨.inr rfl, _, rfl, by simpa using h⟩

def altAt (l : List Int) (i : Nat) : Bool := if i % 2 = 0 then decide (g l i < g l (i + 1)) else decide (g l (i + 1) < g l i)
/-- Greater and smaller by turns. -/
def altB (l : List Int) : Bool := (List.range (l.length - 1)).all (altAt l)
theorem altB_iff {l : List Int} : altB l = true ↔ ∀ i, i + 1 < l.length → altAt l i = true := by
  unfold altB
  rw [List.all_eq_true]
  exact ⟨fun h i hi => h i (List.mem_range.2 (by omega)), fun h i hi => h i (by rw [List.mem_range] at hi; omega)⟩
theorem altB_no {l : List Int} {i : Nat} (hi : i + 1 < l.length) (h : altAt l i = false) : altB l = false := by
  cases hb : altB l with
  | false => rfl
  | true => rw [altB_iff.1 hb i hi] at h; cases h
def cmpI (a b : Int) : Int := if a < b then -1 else if b < a then 1 else 0
theorem Compare_ac (a b : Int) (H : AH) (Q : AV → AH → Prop) (h : Q (.int .i64 (cmpI a b)) H) : AC Tryz.prog 42 [.int .i64 a, .int .i64 b] H Q := by
  refine L_body 20 Tryz.func42 rfl rfl ?_
  unfold cmpI at h
  refine L_reg [0, 1] (fun K hK => ?_)
  simp
  apply hK; clear hK K
  refine L_reg [0, 1, 5] (fun K hK => ?_)
  simp [okFn_low]
  refine isNaN_ac a _ _ ?_
  simp
  apply hK; clear hK K
  refine L_reg [0, 1, 5, 6] (fun K hK => ?_)
  simp [okFn_low]
  refine isNaN_ac b _ _ ?_
  simp
  apply hK; clear hK K
  refine L_reg [0, 1, 6, 11] (fun K hK => ?_)
  simp
  apply hK; clear hK K
  refine L_false rfl ?_
  refine L_reg [0, 1, 13] (fun K hK => ?_)
  simp
  apply hK; clear hK K
  refine L_false rfl ?_
  refine L_reg [0, 1, 16] (fun K hK => ?_)
  simp
  apply hK; clear hK K
  refine L_dec (a < b) rfl (fun h1 => ?_) (fun h1 => ?_)
  · rw [if_pos h1] at h
    refine L_reg [4] (fun K hK => ?_)
    simp
    apply hK; clear hK K
    exact L_ret ⟨.inr rfl, _, rfl, h⟩
  · rw [if_neg h1] at h
    refine L_reg [19] (fun K hK => ?_)
    simp
    apply hK; clear hK K
    refine L_dec (b < a) rfl (fun h2 => ?_) (fun h2 => ?_)
    · rw [if_pos h2] at h
      refine L_reg [4] (fun K hK => ?_)
      simp
      apply hK; clear hK K
      exact L_ret ⟨.inr rfl, _, rfl, h⟩
    · rw [if_neg h2] at h
      refine L_reg [4] (fun K hK => ?_)
      simp
      apply hK; clear hK K
      exact L_ret ⟨.inr rfl, _, rfl, h⟩
def wantI (k : Nat) : Int := if k % 2 = 0 then -1 else 1
theorem want_next (k : Nat) : -wantI k = wantI (k + 1) := by
  unfold wantI
  by_cases h : k % 2 = 0
  · rw [if_pos h, if_neg (by omega)]; rfl
  · rw [if_neg h, if_pos (by omega)]
theorem want_alt {l : List Int} {k : Nat} : altAt l k = decide (cmpI (g l k) (g l (k + 1)) = wantI k) := by
  unfold altAt cmpI wantI
  by_cases h : k % 2 = 0
  · rw [if_pos h, if_pos h]
    apply decide_eq_decide.2
    split <;> (try split) <;> omega
  · rw [if_neg h, if_neg h]
    apply decide_eq_decide.2
    split <;> (try split) <;> omega
theorem wantI_small (k : Nat) : -1 ≤ wantI k ∧ wantI k ≤ 1 := by unfold wantI; split <;> omega
set_option maxRecDepth 100000 in
theorem turns_ac (v : AV) (l : List Int) (H : AH) (Q : AV → AH → Prop) (hlen : l.length ≤ 1000000) (hv : Ls H v l) (h : Q (.bool (altB l)) H) : AC Tryz.prog 24 [v] H Q := by
  refine AC.quiet (by simp [belB]) (fun Q h => ?_) Q h
  obtain ⟨r0, off0, ver0, sz0, full0, hv0, -⟩ := id hv
  refine L_body 17 Tryz.func24 rfl rfl ?_
  refine L_reg [0, 2, 4, 5] (fun K hK => ?_)
  simp [alloc_z zt4]
  apply hK; clear hK K
  obtain ⟨I, hI, hz⟩ := zeroT_some zt3
  have hst := store_last (P := Tryz.prog) (H := H ++ [AObj.row [.bool false] 0 0 false]) (u := 3) (c := [.int .i64 0]) (p := 0) (v := 0) (s := 0) sc3 (x := .int .i64 (-1)) (y := .int .i64 0) rfl rfl
  simp at hst
  refine L_reg [0, 2, 3, 4, 5] (fun K hK => ?_)
  simp [hI, hz, hst]
  apply hK; clear hK K
  have z0 : (H ++ [AObj.row [.bool false] 0 0 false, AObj.row [.int .i64 (-1)] 0 0 false]).length = H.length + 2 := by simp
  have z1 : (H ++ [AObj.row [.bool false] 0 0 false, AObj.row [.int .i64 (-1)] 0 0 false])[H.length]? = some (.row [.bool false] 0 0 false) := by simp
  have z2 : (H ++ [AObj.row [.bool false] 0 0 false, AObj.row [.int .i64 (-1)] 0 0 false])[H.length + 1]? = some (.row [.int .i64 (-1)] 0 0 false) := by simp
  have zE : Ext H (H ++ [AObj.row [.bool false] 0 0 false, AObj.row [.int .i64 (-1)] 0 0 false]) := .push _ _
  generalize H ++ [AObj.row [.bool false] 0 0 false, AObj.row [.int .i64 (-1)] 0 0 false] = Ha at z0 z1 z2 zE ⊢
  rw [hv0]
  refine L_reg [2, 3, 4, 5, 7] (fun K hK => ?_)
  simp [okFn_low]
  refine nbs_ac r0 off0 l.length ver0 sz0 full0 false _ _ ?_
  simp
  apply hK; clear hK K
  rw [← hv0]
  have y1 : (Ha ++ [AObj.row [v] 0 0 false, AObj.row [AV.bool false] 0 0 false])[H.length + 2]? = some (.row [v] 0 0 false) := by rw [← z0]; simp
  have y2 : (Ha ++ [AObj.row [v] 0 0 false, AObj.row [AV.bool false] 0 0 false])[H.length + 3]? = some (.row [.bool false] 0 0 false) := by rw [show H.length + 3 = Ha.length + 1 by omega]; simp
  have yE : Ext Ha (Ha ++ [AObj.row [v] 0 0 false, AObj.row [AV.bool false] 0 0 false]) := .push _ _
  have yl : (Ha ++ [AObj.row [v] 0 0 false, AObj.row [AV.bool false] 0 0 false]).length = H.length + 4 := by simp [z0]
  have z1 := yE.row z1
  have z2 := yE.row z2
  have zE := zE.trans yE
  generalize Ha ++ [AObj.row [v] 0 0 false, AObj.row [AV.bool false] 0 0 false] = H1 at y1 y2 yE yl z1 z2 zE ⊢
  rw [z0]
  refine L_block (L_range [2, 3] rfl (okFn_low (by omega) (by omega)) ?_)
  generalize hL : (⟨17, _, _, _, _⟩ : LR) = L
  have hnt : L.nt = 17 := by rw [← hL]
  have hps : L.ps = #[8, 9] := by rw [← hL]
  have hass := congrArg LR.assign hL.symm
  have he : L.e = [(2, .ptr H.length 0 0), (3, .ptr (H.length + 1) 0 0)] := by rw [← hL]; rfl
  have hbody := congrArg LR.body hL.symm
  clear hL
  rw [yl]
  generalize hp : H.length = p at *
  have hpl : (prs false l).length = l.length - 1 := prs_lenF (by simp)
  refine nb1_ac (p + 4) (p + 2) (p + 3) v l false (fun k H' => p + 5 ≤ H'.length ∧ H'[p + 2]? = some (.row [v] 0 0 false) ∧ H'[p + 3]? = some (.row [.bool false] 0 0 false) ∧ H'[p + 4]? = some (.loop .ready .normal L) ∧ Ext H H' ∧
      (∃ s, H'[p]? = some (.row [.bool false] 0 s false)) ∧ (∃ s, H'[p + 1]? = some (.row [.int .i64 (wantI k)] 0 s false)) ∧ ∀ i, i < k → altAt l i = true)
      (fun H' => altB l = false ∧ H'[p + 4]? = some (.loop .done .ret L) ∧ Ext H H' ∧ ∃ s, H'[p]? = some (.row [.bool false] 0 s false)) _ _ hlen ?_ ?_ ?_ ?_ ?_
  · rintro k H2 ⟨g0, g1, g2, g3, gE, -⟩
    exact ⟨⟨_, g1⟩, ⟨_, g2⟩, hv.ext gE⟩
  · rintro k a b H2 hk ⟨g0, g1, g2, g3, gE, ⟨s4, g4⟩, ⟨s5, g5⟩, g6⟩
    have hkl : k < l.length - 1 := by rw [← hpl]; exact (List.getElem?_eq_some_iff.1 hk).1
    have hab := prs_at (r := false) (l := l) (i := k) (by omega)
    rw [hk] at hab
    cases hab
    refine AYld_mkA g3 (by rw [hps]; rfl) (by rw [hps, hnt]; simp) ?_
    rw [hnt, hps, he, hass]
    refine L_reg [2, 3, 4, 9] (fun K hK => ?_)
    simp [psEnv]
    apply hK; clear hK K
    refine L_reg [2, 3, 4, 5] (fun K hK => ?_)
    simp
    apply hK; clear hK K
    refine ⟨rfl, .normal, L, g3, ?_⟩
    rw [hbody]
    generalize hH2b : H2.set (p + 4) (.loop .busy .normal L) = H2b
    have bl : H2b.length = H2.length := by rw [← hH2b]; simp
    have b4 : H2b[p]? = some (.row [.bool false] 0 s4 false) := by rw [← hH2b, set_ne (by omega)]; exact g4
    have b5 : H2b[p + 1]? = some (.row [.int .i64 (wantI k)] 0 s5 false) := by rw [← hH2b, set_ne (by omega)]; exact g5
    have bL : H2b[p + 4]? = some (.loop .busy .normal L) := by rw [← hH2b, List.getElem?_set_self (by omega)]
    have c1 : H2b[p + 2]? = some (.row [v] 0 0 false) := by rw [← hH2b, set_ne (by omega)]; exact g1
    have c2 : H2b[p + 3]? = some (.row [.bool false] 0 0 false) := by rw [← hH2b, set_ne (by omega)]; exact g2
    have bE : Ext H H2b := by rw [← hH2b]; exact gE.set _ (by omega)
    have e5 : ld H2b (p + 1) 0 0 = some (.int .i64 (wantI k)) := by rw [ld_row b5]; rfl
    have hwa := want_alt (l := l) (k := k)
    have hws := wantI_small k
    refine L_block ?_
    refine L_regQ mixed [2, 3, 14] (by kernel_rfl) (fun K hK => ?_)
    simp [okFn_low]
    refine exQ_mk (fun Q hQ => Compare_ac (g l k) (g l (k + 1)) H2b Q hQ) ?_
    simp [e5]
    apply hK; clear hK K
    by_cases hc : cmpI (g l k) (g l (k + 1)) = wantI k
    · refine L_false (by simp [hc]) ?_
      have hst2 := store_row (P := Tryz.prog) (u := 3) (p := 0) sc3 (x := .int .i64 (wantI (k + 1))) (y := .int .i64 (wantI k)) rfl b5 rfl
      have hws2 := wantI_small (k + 1)
      refine L_reg [] (fun K hK => ?_)
      simp [e5, want_next, wrap_i64 (a := wantI (k + 1)) (by omega), hst2]
      apply hK; clear hK K
      refine ⟨.busy, .normal, L, by rw [set_ne (by omega)]; exact bL, true, rfl, ?_⟩
      simp only [if_true]
      refine ⟨by simp; omega, ?_, ?_, ?_, ?_, ⟨s4, ?_⟩, ⟨0, ?_⟩, fun i hi => ?_⟩
      · rw [set_ne (by omega), set_ne (by omega)]; exact c1
      · rw [set_ne (by omega), set_ne (by omega)]; exact c2
      · rw [List.getElem?_set_self (by simp; omega)]
      · exact (bE.set _ (by omega)).set _ (by omega)
      · rw [set_ne (by omega), set_ne (by omega)]; exact b4
      · rw [set_ne (by omega), get_set b5]
      · rcases Nat.lt_or_ge i k with e | e
        · exact g6 i e
        · rw [show i = k by omega, hwa]; simp [hc]
    · refine L_true (by simp [hc]) ?_
      have hst2 := store_row (P := Tryz.prog) (u := 4) (p := 0) sc4 (x := .bool false) (y := .bool false) rfl b4 rfl
      refine L_reg [2] (fun K hK => ?_)
      simp [hst2]
      apply hK; clear hK K
      refine L_ret ⟨.busy, .normal, L, by rw [set_ne (by omega)]; exact bL, false, rfl, ?_⟩
      refine ⟨altB_no (i := k) (by omega) (by rw [hwa]; simpa using hc), ?_, ?_, ?_⟩
      · rw [List.getElem?_set_self (by simp; omega)]; rfl
      · exact (bE.set _ (by omega)).set _ (by omega)
      · exact ⟨_, by rw [set_ne (by omega), get_set b4]⟩
  · have hin : ∀ j, j < H1.length → (H1 ++ [AObj.loop .ready .normal L])[j]? = H1[j]? := fun j hj => List.getElem?_append_left hj
    refine ⟨by simp; omega, ?_, ?_, by rw [← yl]; simp, zE.trans (.push _ _), ⟨0, ?_⟩, ⟨0, ?_⟩, fun i hi => by omega⟩
    · rw [hin _ (by omega)]; exact y1
    · rw [hin _ (by omega)]; exact y2
    · rw [hin _ (by omega)]; exact z1
    · rw [hin _ (by omega)]; exact z2
  · rintro H2 ⟨g0, g1, g2, g3, gE, ⟨s4, g4⟩, ⟨s5, g5⟩, g6⟩
    refine ⟨.ready, .normal, L, g3, by simp, ?_⟩
    have b4 : (H2.set (p + 4) (.loop .exhausted .normal L))[p]? = some (.row [.bool false] 0 s4 false) := by rw [set_ne (by omega)]; exact g4
    have hst2 := store_row (P := Tryz.prog) (u := 4) (p := 0) sc4 (x := .bool true) (y := .bool false) rfl b4 rfl
    have halt : altB l = true := altB_iff.2 fun i hi => g6 i (by rw [hpl]; omega)
    rw [halt] at h
    show AWL _ _ _ _ _ _
    refine L_reg [2] (fun K hK => ?_)
    simp [hst2]
    apply hK; clear hK K
    have b6 := get_set (o' := AObj.row [.bool true] 0 0 false) b4
    refine L_ret ⟨.inr rfl, .bool true, ?_, h _ ((gE.set _ (by omega)).set _ (by omega))⟩
    have h1 : aRes1 Tryz.prog [(2, AV.ptr p 0 0)] ((H2.set (p + 4) (.loop .exhausted .normal L)).set p (AObj.row [.bool true] 0 0 false)) (.cell 2 4) = some (.bool true) := by
      show loadV Tryz.prog 4 _ (.ptr p 0 0) = _
      rw [ld4, ld_row b6]; rfl
    show (aResList Tryz.prog _ _ [.cell 2 4]).map _ = some _
    simp only [aResList]
    rw [h1]; rfl
  · rintro H2 ⟨g0, g1, gE, s4, g4⟩
    rw [g0] at h
    refine ⟨.done, .ret, L, g1, by simp, ?_⟩
    have b4 : (H2.set (p + 4) (.loop .exhausted .ret L))[p]? = some (.row [.bool false] 0 s4 false) := by rw [set_ne (by omega)]; exact g4
    refine ⟨.inr rfl, .bool false, ?_, h _ (gE.set _ (by omega))⟩
    have h1 : ∀ e : Env, eget e 2 = .ptr p 0 0 → aRes1 Tryz.prog e (H2.set (p + 4) (.loop .exhausted .ret L)) (.cell 2 4) = some (.bool false) := fun e he => by
      show loadV Tryz.prog 4 _ (eget e 2) = _
      rw [he, ld4, ld_row b4]; rfl
    show (aResList Tryz.prog _ _ [.cell 2 4]).map _ = some _
    simp only [aResList]
    rw [h1 _ rfl]; rfl
end Go.Proofs.YticlfkmjmhjiaaaGreatDoor

/- Ported: Works0. -/
namespace Go.Proofs.YticlfkmjmhjiaaaGreatDoor
open Go Go.Proofs.YticlfkmjmhjiaaaGreatDoor.AX

noncomputable def forceL {α : Type} : List Int → (List Int → α) → α
  | [], k => k []
  | x :: l, k => forceI x fun x => forceL l fun l => k (x :: l)
/-- The best one, reckoned at once. -/
def readI : List AV → Option (List Int)
  | [] => some []
  | .int .i64 a :: rest => match readI rest with
    | some l => some (a :: l)
    | none => none
  | _ => none
theorem readI_get : ∀ {vs : List AV} {l : List Int}, readI vs = some l → vs = l.map (.int .i64)
  | [], l, h => by simp [readI] at h; subst h; rfl
  | v :: vs, l, h => by
    unfold readI at h
    split at h
    case h_1 => rename_i h0; cases h0
    case h_3 => cases h
    rename_i a rest heq
    cases heq
    split at h
    case h_2 => cases h
    rename_i l' hl
    cases h
    rw [readI_get hl]; rfl
/-- A list read off its row. -/
noncomputable def readL (v : AV) (H : AH) : Option (List Int) := match v with
  | .slice (some r) off len ver sz _ => bif Nat.beq sz 1 && Nat.ble len 1000 then (match ldn H r ver len off with
    | some vs => match readI vs with
      | some l => bif l.all (fun x => decide (-1000 ≤ x) && decide (x ≤ 1000)) then some l else none
      | none => none
    | none => none) else none
  | _ => none
theorem readL_ok {v : AV} {H : AH} {l : List Int} (h : readL v H = some l) : Ls H v l ∧ l.length ≤ 1000 ∧ Bd 1000 l := by
  unfold readL at h
  split at h
  case h_2 => cases h
  rename_i r off len ver sz full
  cases hc : (Nat.beq sz 1 && Nat.ble len 1000) with
  | false => rw [hc] at h; cases h
  | true =>
    rw [hc, cond_true] at h
    simp only [Bool.and_eq_true] at hc
    obtain rfl := Nat.eq_of_beq_eq_true hc.1
    have h2 := Nat.le_of_ble_eq_true hc.2
    split at h
    case h_2 => cases h
    rename_i vs hvs
    split at h
    case h_2 => cases h
    rename_i m hl
    cases hb : m.all (fun x => decide (-1000 ≤ x) && decide (x ≤ 1000)) with
    | false => rw [hb] at h; cases h
    | true =>
      rw [hb, cond_true] at h
      cases h
      simp only [List.all_eq_true, Bool.and_eq_true, decide_eq_true_eq] at hb
      have hvl := (ldn_part hvs).1
      have hv := readI_get hl
      have hll : l.length = len := by rw [← hvl, hv]; simp
      refine ⟨⟨some r, off, ver, 1, full, by rw [hll], fun i hi => ⟨r, rfl, rfl, ?_⟩⟩, by omega, fun x hx => hb x hx⟩
      have := (ldn_part hvs).2 i 1 (by omega)
      rw [hv] at this
      have e : ((l.map (AV.int .i64)).drop i).take 1 = [.int .i64 l[i]] := by
        rw [List.drop_eq_getElem_cons (by simpa using hi)]
        simp
      rw [e, ldn_succ] at this
      cases hx : ld H r (off + i) ver with
      | none => rw [hx] at this; cases this
      | some y => rw [hx] at this; simp [ldn_zero] at this; rw [this]
noncomputable def forceB {α : Type} (b : Bool) (k : Bool → α) : α := Bool.rec (k false) (k true) b
theorem forceB_eq {α : Type} (b : Bool) (k : Bool → α) : forceB b k = k b := by cases b <;> rfl
noncomputable def turnX (args : List AV) (H : AH) : Option (AV × AH) := match args with
  | [v] => match readL v H with
    | some l => forceB (altB l) fun x => some (.bool x, H)
    | none => none
  | _ => none
theorem turnX_ok {args : List AV} {H : AH} {v : AV} {H' : AH} (h : turnX args H = some (v, H')) : AC Tryz.prog 24 args H fun v' H2 => v' = v ∧ H2 = H' := by
  unfold turnX at h
  split at h
  case h_2 => cases h
  rename_i u
  split at h
  case h_2 => cases h
  rename_i l hl
  rw [forceB_eq] at h
  cases h
  obtain ⟨h1, h2, h3⟩ := readL_ok hl
  exact turns_ac u l H _ (by omega) h1 ⟨rfl, rfl⟩
end Go.Proofs.YticlfkmjmhjiaaaGreatDoor

/- Ported: Begins. -/
namespace Go.Proofs.YticlfkmjmhjiaaaGreatDoor
open Go Go.Proofs.YticlfkmjmhjiaaaGreatDoor.AX
set_option linter.unusedVariables false
theorem Bd.mono {M N : Int} {l : List Int} (h : Bd M l) (hn : M ≤ N) : Bd N l := fun x hx => by have := h x hx; omega
/-- The triangle's row with an index: its sums of the row before. -/
def ern : Nat → List Int
  | 0 => [1]
  | m + 1 => (List.range (m + 2)).map fun f => ((ern m).take (m + 1 - f)).sum
theorem ern_len (m : Nat) : (ern m).length = m + 1 := by cases m <;> simp [ern]
theorem ern_g {m f : Nat} (h : f < m + 2) : g (ern (m + 1)) f = ((ern m).take (m + 1 - f)).sum := by
  rw [g_lt (by simp [ern]; omega)]; simp [ern]
theorem ern_bd : ∀ m, m ≤ 8 → Bd 10000 (ern m) := by unfold Bd; decide
theorem ern_sum : ∀ m, m ≤ 8 → ∀ f, f ≤ 9 → 0 ≤ ((ern m).take f).sum ∧ ((ern m).take f).sum ≤ 100000 := by decide
/-- Orders of n cigars that begin with k, and all of them. -/
def eb (n k : Nat) : Int := g (ern (n - 1)) k
def ec (n : Nat) : Int := (ern (n - 1)).sum
set_option maxRecDepth 100000 in
theorem begins_ac (n : Nat) (h1 : 1 ≤ n) (h9 : n ≤ 9) (H : AH) (Q : AV → AH → Prop) (h : ∀ v H', OwnF H.length H' v ((ern (n - 1)).map (.int .i64)) → Ext H H' → Q v H') : AC Tryz.prog 37 [.int .i64 n] H Q := by
  refine L_body 33 Tryz.func37 rfl rfl ?_
  refine L_reg [0] (fun K hK => ?_)
  simp
  apply hK; clear hK K
  refine L_reg [0, 3] (fun K hK => ?_)
  simp
  apply hK; clear hK K
  have hE : Ext H (H ++ [AObj.row [AV.int .i64 1] 0 1 false]) := .push _ _
  have hO : OwnF H.length (H ++ [AObj.row [AV.int .i64 1] 0 1 false]) (.slice (some H.length) 0 1 0 1 false) ((ern 0).map (.int .i64)) := .inr ⟨H.length, 0, 1, Nat.le_refl _, rfl, by simp [ern]⟩
  generalize H ++ [AObj.row [AV.int .i64 1] 0 1 false] = H1 at hE hO ⊢
  refine L_block (L_loopV [3] (fun k vs H' => ∃ (j : Nat) (w : AV), k = n - (j + 1) ∧ j + 1 ≤ n ∧ vs = [w] ∧ OwnF H.length H' w ((ern j).map (.int .i64)) ∧ Ext H H') _ [_] rfl ⟨0, _, rfl, by omega, rfl, hO, hE⟩ ?_)
  rintro _ _ H2 ⟨j, w, rfl, hj, rfl, hO2, hE2⟩
  have hw := hO2.own.ls
  have hl := ls_len hw
  rw [ern_len] at hl
  refine L_reg [0, 3, 10] (fun K hK => ?_)
  simp [hl]
  apply hK; clear hK K
  refine L_dec (j + 1 < n) (by simp; omega) (fun hlt => ?_) (fun hge => L_exit ?_)
  · refine L_block ?_
    have e1 : (j : Int) + 1 + 1 = ((j + 2 : Nat) : Int) := by omega
    have hmk := fun H => make_z (P := Tryz.prog) (H := H) elz26 (show j + 2 ≤ 16777216 by omega)
    rw [show ((j + 2 : Nat) : Int) = (j : Int) + 2 by omega] at hmk
    have e0 : IntKind.i64.wrap ((j : Int) + 1 + 1) = ((j + 2 : Nat) : Int) := by rw [wrap_i64 (by omega)]; omega
    refine L_reg [0, 3, 4] (fun K hK => ?_)
    simp [hl, e0, hmk]
    apply hK; clear hK K
    have hrow : Rw H2.length 0 (H2 ++ [AObj.row (List.replicate (j + 2) (AV.int .i64 0)) 0 0 false]) (List.replicate (j + 2) 0) := ⟨0, by simp⟩
    have hE3 : Ext H2 (H2 ++ [AObj.row (List.replicate (j + 2) (AV.int .i64 0)) 0 0 false]) := .push _ _
    have hE23 := hE2.trans hE3
    have hw3 := hw.ext hE3
    have hge2 := hE2.1
    generalize H2 ++ [AObj.row (List.replicate (j + 2) (AV.int .i64 0)) 0 0 false] = H3 at hrow hE3 hE23 hw3 ⊢
    refine L_reg [0, 3, 4, 16, 17] (fun K hK => ?_)
    simp
    apply hK; clear hK K
    refine L_block (L_loopV [17] (fun k vs H' => ∃ (f : Nat) (d : List Int), k = j + 2 - f ∧ f ≤ j + 2 ∧ d.length = j + 2 ∧ (∀ i, i < f → g d i = g (ern (j + 1)) i) ∧ vs = [.int .i64 f] ∧ Rw H2.length 0 H' d ∧ KeepX H2.length H3 H') _ [.int .i64 0] rfl ⟨0, _, rfl, by omega, by simp, fun i hi => by omega, rfl, hrow, .refl _ _⟩ ?_)
    rintro _ _ H4 ⟨f, d, rfl, hf, hdl, hd, rfl, hr4, hK4⟩
    refine L_reg [0, 3, 4, 16, 17, 18] (fun K hK => ?_)
    simp
    apply hK; clear hK K
    refine L_dec (f < j + 2) (by simp; omega) (fun hlt2 => ?_) (fun hge2 => L_exit ?_)
    · refine L_block ?_
      have hw4 : Ls H4 w (ern j) := ls_keep hw3 fun i hi hi2 => by
        have := ownF_rowlt hO2 hi2
        exact hK4.2 i (by omega) hi
      refine L_reg [0, 3, 4, 5, 16, 17] (fun K hK => ?_)
      simp
      apply hK; clear hK K
      have e2 : IntKind.i64.wrap ((j : Int) + 1 - f) = ((j + 1 - f : Nat) : Int) := by rw [wrap_i64 (by omega)]; omega
      obtain ⟨u, hu1, hu2⟩ := ls_hi hw4 (by rw [ern_len]; omega) (m := j + 1 - f) (by rw [ern_len]; omega)
      have hb := ern_bd j (by omega)
      have hs := ern_sum j (by omega) (j + 1 - f) (by omega)
      have hgf := ern_g (m := j) (f := f) hlt2
      obtain ⟨H5, p3, p4, p5⟩ := hr4.put (i := f) (by omega) (g (ern (j + 1)) f)
      rw [hgf] at p3
      refine L_reg [0, 3, 4, 16, 17] (fun K hK => ?_)
      simp [okFn_low, hl, e2, hu1]
      refine total_ac u _ _ _ (by simp [ern_len]; omega) ((hb.take _).mono (by decide : (10000 : Int) ≤ 1000000000)) hu2 ?_
      simp [show (f : Int) < (j : Int) + 2 by omega, p3]
      apply hK; clear hK K
      refine L_reg [0, 3, 4, 16, 17] (fun K hK => ?_)
      simp [wrap_i64 (a := (f : Int) + 1) (by omega)]
      apply hK; clear hK K
      refine ⟨j + 2 - (f + 1), [.int .i64 (f + 1 : Nat)], by omega, by simp, f + 1, _, rfl, by omega, by simpa using hdl, fun i hi => ?_, rfl, p4, hK4.trans p5⟩
      rw [g_set (by omega)]
      split
      · rename_i e; rw [e]
      · exact hd i (by omega)
    · have : d = ern (j + 1) := g_ext (by rw [ern_len]; omega) fun i hi => hd i (by omega)
      subst this
      refine L_reg [0, 3] (fun K hK => ?_)
      simp
      apply hK; clear hK K
      refine ⟨n - (j + 2), [_], by omega, rfl, j + 1, _, rfl, by omega, rfl, ?_, hK4.new hE23 (by omega)⟩
      have := hr4.ownF (N := H.length) (by omega)
      rwa [ern_len] at this
  · obtain rfl : j = n - 1 := by omega
    refine L_reg [2] (fun K hK => ?_)
    simp
    apply hK; clear hK K
    exact L_ret ⟨.inr rfl, _, rfl, h _ _ hO2 hE2⟩
theorem count_ac (n : Nat) (h1 : 1 ≤ n) (h9 : n ≤ 9) (H : AH) (Q : AV → AH → Prop) (h : Q (.int .i64 (ec n)) H) : AC Tryz.prog 19 [.int .i64 n] H Q := by
  refine AC.quiet (belB_int _ _ _ _) (fun Q h => ?_) Q h
  refine L_body 6 Tryz.func19 rfl rfl ?_
  refine L_reg [0] (fun K hK => ?_)
  simp
  apply hK; clear hK K
  refine L_reg [2] (fun K hK => ?_)
  simp [okFn_low]
  refine begins_ac n h1 h9 _ _ (fun w H1 hO hE => ?_)
  simp [okFn_low]
  refine total_ac w _ _ _ (by simp [ern_len]; omega) ((ern_bd (n - 1) (by omega)).mono (by decide : (10000 : Int) ≤ 1000000000)) hO.own.ls ?_
  simp
  apply hK; clear hK K
  exact L_ret ⟨.inr rfl, _, rfl, h H1 hE⟩
def bgV (n k : Int) : Int := if (1 ≤ n ∧ n ≤ 9) ∧ 0 ≤ k ∧ k < n then eb n.toNat k.toNat else 0
def bgE (n k : Int) : Int := if (1 ≤ n ∧ n ≤ 9) ∧ 0 ≤ k ∧ k < n then 0 else 1
def cnV (n : Int) : Int := if 1 ≤ n ∧ n ≤ 9 then ec n.toNat else 0
def cnE (n : Int) : Int := if 1 ≤ n ∧ n ≤ 9 then 0 else 1
end Go.Proofs.YticlfkmjmhjiaaaGreatDoor

/- Ported: SumN. -/
namespace Go.Proofs.YticlfkmjmhjiaaaGreatDoor
open Go Go.Proofs.YticlfkmjmhjiaaaGreatDoor.AX
set_option linter.unusedVariables false
def sumN (f : Nat → Int) : Nat → Int
  | 0 => 0
  | n + 1 => sumN f n + f n
end Go.Proofs.YticlfkmjmhjiaaaGreatDoor

/- Ported: OrdM. -/
namespace Go.Proofs.YticlfkmjmhjiaaaGreatDoor
open Go Go.Proofs.YticlfkmjmhjiaaaGreatDoor.AX
set_option linter.unusedVariables false
/-- How many numbers below k are not in a list. -/
def cn (L : List Int) : Nat → Nat
  | 0 => 0
  | k + 1 => cn L k + if (k : Int) ∈ L then 0 else 1
theorem cn_nil : ∀ k, cn [] k = k
  | 0 => rfl
  | k + 1 => by simp [cn, cn_nil k]
theorem cn_mono (L : List Int) : ∀ {j k : Nat}, j ≤ k → cn L j ≤ cn L k
  | j, 0, h => by rw [show j = 0 by omega]; exact Nat.le_refl _
  | j, k + 1, h => by
    by_cases e : j = k + 1
    · rw [e]; exact Nat.le_refl _
    · have := cn_mono L (j := j) (k := k) (by omega)
      simp only [cn]; omega
/-- The place, among the numbers left, of the one that begins them: from below, or from above. -/
def rkS (n : Nat) (b : List Int) (x : Nat) : Nat := if b.length % 2 = 1 then n - b.length - 1 - cn b x else cn b x
/-- How many turning orders begin with some numbers and the next one. -/
def folS (n : Nat) (b : List Int) (x : Nat) : Int := if (x : Int) ∈ b ∨ altB (b ++ [(x : Int)]) = false then 0 else eb (n - b.length) (rkS n b x)
/-- The same, as the reference counts them. -/
def cntS (n : Nat) : Nat → List Int → Int
  | 0, b => if altB b = false then 0 else 1
  | d + 1, b => if altB b = false then 0 else sumN (fun x => if (x : Int) ∈ b then 0 else cntS n d (b ++ [(x : Int)])) n
/-- Numbers of an order that has begun. -/
structure Beg (n : Nat) (b : List Int) : Prop where
  nd : b.Nodup
  lt : ∀ x ∈ b, 0 ≤ x ∧ x < n
  cn : cn b n + b.length = n
theorem Beg.nil (n : Nat) : Beg n [] := ⟨.nil, by simp, by simp [cn_nil]⟩
end Go.Proofs.YticlfkmjmhjiaaaGreatDoor

/- Ported: OrdA. -/
namespace Go.Proofs.YticlfkmjmhjiaaaGreatDoor
open Go Go.Proofs.YticlfkmjmhjiaaaGreatDoor.AX
set_option linter.unusedVariables false
theorem idx_in {x : Int} {l : List Int} : decide (0 ≤ idx x l) = decide (x ∈ l) := by
  apply decide_eq_decide.2
  constructor
  · intro h
    obtain ⟨p, hp⟩ : ∃ p : Nat, idx x l = p := ⟨(idx x l).toNat, by omega⟩
    obtain ⟨h1, h2⟩ := idx_get hp
    rw [← h2]; exact gmem h1
  · exact idx_mem
theorem Contains_ac (v : AV) (l : List Int) (x : Int) (H : AH) (Q : AV → AH → Prop) (hlen : l.length ≤ 1000000) (hv : Ls H v l) (h : Q (.bool (decide (x ∈ l))) H) : AC Tryz.prog 23 [v, .int .i64 x] H Q := by
  refine L_body 9 Tryz.func23 rfl rfl ?_
  refine L_reg [0, 1] (fun K hK => ?_)
  simp
  apply hK; clear hK K
  refine L_reg [4] (fun K hK => ?_)
  simp [okFn_low]
  refine Index_ac v l x _ _ hlen hv ?_
  simp
  apply hK; clear hK K
  rw [← idx_in] at h
  exact L_ret ⟨.inr rfl, _, rfl, h⟩
/-- How many are smaller. -/
def smS (l : List Int) (x : Int) : Nat := (l.filter fun y => decide (y < x)).length
theorem sm_take {l : List Int} {i : Nat} {x : Int} (h : i < l.length) : smS (l.take (i + 1)) x = smS (l.take i) x + if g l i < x then 1 else 0 := by
  unfold smS
  rw [List.take_add_one, List.getElem?_eq_getElem h, ← g_lt h, List.filter_append, List.length_append]
  congr 1
  by_cases c : g l i < x <;> simp [c]
theorem smaller7_ac (v : AV) (l : List Int) (x : Int) (H : AH) (Q : AV → AH → Prop) (hlen : l.length ≤ 1000000) (hv : Ls H v l) (h : Q (.int .i64 (smS l x)) H) : AC Tryz.prog 52 [v, .int .i64 x] H Q := by
  have hl := ls_len hv
  refine L_body 21 Tryz.func52 rfl rfl ?_
  refine L_reg [0, 1] (fun K hK => ?_)
  simp
  apply hK; clear hK K
  refine L_reg [0, 1, 5] (fun K hK => ?_)
  simp
  apply hK; clear hK K
  refine L_reg [1, 5, 8, 9, 10] (fun K hK => ?_)
  simp [hl]
  apply hK; clear hK K
  refine L_block (L_loopV [5, 10] (fun n vs H' => ∃ i : Nat, n = l.length - i ∧ i ≤ l.length ∧ vs = [.int .i64 (smS (l.take i) x), .int .i64 i] ∧ H = H') _ [.int .i64 0, .int .i64 0] rfl ⟨0, rfl, by omega, rfl, rfl⟩ ?_)
  rintro n _ _ ⟨i, rfl, hi, rfl, rfl⟩
  refine L_reg [1, 5, 8, 9, 10, 11] (fun K hK => ?_)
  simp
  apply hK; clear hK K
  refine L_dec (i < l.length) (by simp) (fun hlt => ?_) (fun hge => L_exit ?_)
  · refine L_block ?_
    obtain ⟨rz, pz, vz, hix, hld⟩ := ls_ix hv hlt
    have hs := sm_take (x := x) hlt
    have hle : smS (l.take i) x ≤ i := by
      unfold smS
      exact Nat.le_trans (List.length_filter_le ..) (by simp; omega)
    refine L_reg [1, 5, 7, 8, 9, 10] (fun K hK => ?_)
    simp [hix, hld]
    apply hK; clear hK K
    refine L_reg [1, 5, 8, 9, 10, 16] (fun K hK => ?_)
    simp
    apply hK; clear hK K
    by_cases c : g l i < x
    · rw [if_pos c] at hs
      refine L_true (by simp [c]) ?_
      refine L_reg [1, 5, 8, 9, 10] (fun K hK => ?_)
      simp [wrap_i64 (a := (smS (l.take i) x : Int) + 1) (by omega)]
      apply hK; clear hK K
      refine L_reg [1, 5, 8, 9, 10] (fun K hK => ?_)
      simp [wrap_i64 (a := (i : Int) + 1) (by omega)]
      apply hK; clear hK K
      exact ⟨l.length - (i + 1), [.int .i64 (smS (l.take (i + 1)) x : Nat), .int .i64 (i + 1 : Nat)], by omega, by simp [hs], i + 1, rfl, by omega, rfl, rfl⟩
    · rw [if_neg c] at hs
      refine L_false (by simp only [c]; simp) ?_
      refine L_reg [1, 5, 8, 9, 10] (fun K hK => ?_)
      simp [wrap_i64 (a := (i : Int) + 1) (by omega)]
      apply hK; clear hK K
      exact ⟨l.length - (i + 1), [.int .i64 (smS (l.take (i + 1)) x : Nat), .int .i64 (i + 1 : Nat)], by omega, by simp [hs], i + 1, rfl, by omega, rfl, rfl⟩
  · rw [List.take_of_length_le (by omega)]
    refine L_reg [4] (fun K hK => ?_)
    simp
    apply hK; clear hK K
    exact L_ret ⟨.inr rfl, _, rfl, h⟩
set_option maxRecDepth 100000 in
/-- Grow makes an empty slice with room. -/
theorem Grow_nil_ac (n : Nat) (h1 : 1 ≤ n) (h2 : n ≤ 1000) (H : AH) (Q : AV → AH → Prop) (h : Q (.slice (some H.length) 0 0 0 1 false) (H ++ [.row (List.replicate n (.int .i64 0)) 0 0 false])) : AC Tryz.prog 53 [.slice none 0 0 0 1 false, .int .i64 n] H Q := by
  refine L_body 27 Tryz.func53 rfl rfl ?_
  refine L_reg [0, 1] (fun K hK => ?_)
  simp
  apply hK; clear hK K
  refine L_reg [0, 1, 6] (fun K hK => ?_)
  simp
  apply hK; clear hK K
  refine L_false (by simp) ?_
  have hcap := cap_nil (P := Tryz.prog) slz26 0 0 0 1 false
  have hw : IntKind.i64.wrap ((n : Int) - IntKind.i64.wrap 0) = n := by rw [wrap_i64 (a := 0) (by omega), wrap_i64 (by omega)]; omega
  refine L_reg [0, 1] (fun K hK => ?_)
  simp [hcap, hw]
  apply hK; clear hK K
  refine L_reg [0, 1, 16] (fun K hK => ?_)
  simp
  apply hK; clear hK K
  refine L_true (by simp; omega) ?_
  have ha : aAppMake Tryz.prog H 26 3 (.slice none 0 0 0 1 false) (.int .i64 n) = some (.slice (some H.length) 0 n 0 1 false, H ++ [.row (List.replicate n (.int .i64 0)) 0 0 false]) := by
    obtain ⟨I, hI, hz⟩ := zeroT_some zt3
    have hsz : I.size = 1 ∧ I.bytes ≤ 4096 := by
      obtain ⟨e, I', e1, e2, e3, e4, -⟩ := elT_some el26
      have : Tryz.prog.underlying 26 = some (.slice 3) := und22
      rw [this] at e1
      obtain rfl : 3 = e := by simpa using e1
      rw [e2] at hI
      obtain rfl := Option.some.inj hI
      exact ⟨e3, e4⟩
    unfold aAppMake
    rw [und22]
    rw [Tryz.underlying3]
    simp [hI, hz, hsz]
    refine ⟨⟨by omega, by omega⟩, List.eq_replicate_iff.2 ⟨by simp, fun b hb => ?_⟩⟩
    obtain ⟨i, -, rfl⟩ := List.mem_map.1 hb
    simp [Nat.mod_one]
  have hn : aAppend Tryz.prog H 26 3 (.slice none 0 0 0 1 false) (.int .i64 n) = none := by
    obtain ⟨e, I, e1, e2, e3, e4, -⟩ := elT_some el26
    simp [aAppend, e1, e2, e3, e4, aSrc, Tryz.underlying3]
  have hs1 : aSlice Tryz.prog 26 (.slice none 0 0 0 1 false) none (some (.int .i64 0)) none = some (.slice none 0 0 0 1 false) := by
    have := slice_hi (P := Tryz.prog) slz26 none 0 0 0 false (k := .i64) (i := 0) (by omega)
    simpa using this
  have hs2 : aSlice Tryz.prog 26 (.slice (some H.length) 0 n 0 1 false) none (some (.int .i64 0)) none = some (.slice (some H.length) 0 0 0 1 false) := by
    have := slice_hi (P := Tryz.prog) slz26 (some H.length) 0 n 0 false (k := .i64) (i := 0) (by omega)
    simpa using this
  refine L_reg [0] (fun K hK => ?_)
  simp [hcap, hs1, ha, hn, hs2, orApp, appV]
  apply hK; clear hK K
  refine L_reg [4] (fun K hK => ?_)
  simp
  apply hK; clear hK K
  exact L_ret ⟨.inr rfl, _, rfl, h⟩
end Go.Proofs.YticlfkmjmhjiaaaGreatDoor

/- Ported: OrdB. -/
namespace Go.Proofs.YticlfkmjmhjiaaaGreatDoor
open Go Go.Proofs.YticlfkmjmhjiaaaGreatDoor.AX
set_option linter.unusedVariables false
theorem tk_rep : ∀ (n k : Nat), n ≤ k → (takeKnown n (List.replicate k (AV.int .i64 0))).isSome = true
  | 0, _, _ => by simp [takeKnown]
  | n + 1, k, h => by
    obtain ⟨j, rfl⟩ : ∃ j, k = j + 1 := ⟨k - 1, by omega⟩
    have := tk_rep n j (by omega)
    simp only [List.replicate_succ, takeKnown]
    cases h : takeKnown n (List.replicate j (AV.int .i64 0)) with
    | none => rw [h] at this; cases this
    | some x => simp
/-- A slice with room behind it. -/
def Room (r : Nat) (a : List Int) (k : Nat) (H : AH) : Prop := ∃ st, H[r]? = some (.row (a.map (.int .i64) ++ List.replicate k (.int .i64 0)) 0 st false)
theorem Room.app {r : Nat} {a m : List Int} {k : Nat} {H : AH} {x : AV} (h : Room r a k H) (hx : Ls H x m) (hk : m.length ≤ k) (hl : a.length + m.length ≤ 1000) :
    ∃ H', aAppend Tryz.prog H 26 26 (.slice (some r) 0 a.length 0 1 false) x = some (.slice (some r) 0 (a.length + m.length) 0 1 false, H') ∧ Room r (a ++ m) (k - m.length) H' ∧ KeepX r H H' := by
  obtain ⟨e, I, h1, h2, h3, h4, -⟩ := elT_some el26
  have hsrc := src_ls el26 hx
  have hall := all_ints m
  by_cases c : m = []
  · subst c
    refine ⟨H, ?_, by simpa using h, .refl _ _⟩
    simp at hsrc
    simp [aAppend, h1, h2, h3, h4, hsrc]
  · obtain ⟨st, hr⟩ := h
    have hm0 : m.length ≠ 0 := fun e => c (List.eq_nil_of_length_eq_zero e)
    have hd : (a.map (AV.int .i64) ++ List.replicate k (AV.int .i64 0)).drop a.length = List.replicate k (.int .i64 0) := by
      rw [List.drop_append]; simp
    have ht : (a.map (AV.int .i64) ++ List.replicate k (AV.int .i64 0)).take a.length = a.map (.int .i64) := by
      rw [List.take_append_of_le_length (by simp), List.take_of_length_le (by simp)]
    have hd2 : (a.map (AV.int .i64) ++ List.replicate k (AV.int .i64 0)).drop (a.length + m.length) = List.replicate (k - m.length) (.int .i64 0) := by
      rw [← List.drop_drop, hd]; simp
    have hstn : stn H r 0 (m.map (.int .i64)) a.length = some (H.set r (.row ((a ++ m).map (.int .i64) ++ List.replicate (k - m.length) (.int .i64 0)) 0 (min st a.length) false)) := by
      cases m with
      | nil => exact absurd rfl c
      | cons y m =>
        rw [List.map_cons]
        unfold stn
        rw [hr]
        simp only []
        rw [if_pos ⟨trivial, trivial, by simpa using hall, by rw [hd]; exact tk_rep _ _ (by simpa using hk)⟩, ht, show (AV.int .i64 y :: m.map (AV.int .i64)).length = (y :: m).length by simp, hd2]
        simp
    refine ⟨H.set r (.row ((a ++ m).map (.int .i64) ++ List.replicate (k - m.length) (.int .i64 0)) 0 (min st a.length) false), ?_, ⟨min st a.length, get_set hr⟩, (KeepX.refl r H).set _⟩
    have hin : inPlace H r 0 a.length m.length 0 1 (m.map (.int .i64)) = some (H.set r (.row ((a ++ m).map (.int .i64) ++ List.replicate (k - m.length) (.int .i64 0)) 0 (min st a.length) false)) := by
      unfold inPlace
      rw [hr]
      simp only []
      rw [if_pos ⟨trivial, by simp; omega⟩]
      simpa using hstn
    have hs2 : a.length + m.length ≤ 16777216 := by omega
    simp [aAppend, h1, h2, h3, h4, hsrc, c, hin, hs2]
    exact fun _ _ => rfl
set_option maxRecDepth 100000 in
theorem Concat2_ac (x y : AV) (a b : List Int) (p : Nat) (H : AH) (Q : AV → AH → Prop) (h1 : 1 ≤ a.length + b.length) (hl : a.length + b.length ≤ 100) (hx : Ls H x a) (hy : Ls H y b) (hp : ∃ m, H[p]? = some (.row [x, y] 0 m false))
    (h : ∀ v H', OwnF H.length H' v ((a ++ b).map (.int .i64)) → Ext H H' → Q v H') : AC Tryz.prog 39 [.slice (some p) 0 2 0 1 false] H Q := by
  obtain ⟨mm, hp⟩ := hp
  have ox : x.one = true := by obtain ⟨_, _, _, _, _, rfl, -⟩ := hx; rfl
  have oy : y.one = true := by obtain ⟨_, _, _, _, _, rfl, -⟩ := hy; rfl
  have q0 : ∀ H', H'[p]? = some (.row [x, y] 0 mm false) → ld H' p 0 0 = some x := fun H' h => by rw [ld_row h]; exact known_one ox
  have q1 : ∀ H', H'[p]? = some (.row [x, y] 0 mm false) → ld H' p 1 0 = some y := fun H' h => by rw [ld_row h]; exact known_one oy
  have hxl := ls_len hx
  have hyl := ls_len hy
  refine L_body 36 Tryz.func39 rfl rfl ?_
  refine L_reg [0] (fun K hK => ?_)
  simp
  apply hK; clear hK K
  refine L_reg [0, 3] (fun K hK => ?_)
  simp
  apply hK; clear hK K
  refine L_reg [0, 3, 9, 10, 11] (fun K hK => ?_)
  simp
  apply hK; clear hK K
  refine L_block (L_loopV [3, 11] (fun n vs H' => ∃ i : Nat, n = 2 - i ∧ i ≤ 2 ∧ vs = [.int .i64 ((if 0 < i then a.length else 0) + (if 1 < i then b.length else 0) : Nat), .int .i64 i] ∧ H = H') _ [.int .i64 0, .int .i64 0] rfl ⟨0, rfl, by omega, rfl, rfl⟩ ?_)
  rintro _ _ _ ⟨i, rfl, hi, rfl, rfl⟩
  refine L_reg [0, 3, 9, 10, 11, 12] (fun K hK => ?_)
  simp
  apply hK; clear hK K
  refine L_dec (i < 2) (by simp; omega) (fun hlt => ?_) (fun hge => L_exit ?_)
  · refine L_block ?_
    obtain rfl | rfl : i = 0 ∨ i = 1 := by omega
    · refine L_reg [0, 3, 5, 9, 10, 11] (fun K hK => ?_)
      simp [q0 H hp]
      apply hK; clear hK K
      refine L_reg [0, 3, 9, 10, 11] (fun K hK => ?_)
      simp [hxl, wrap_i64 (a := (a.length : Int)) (by omega)]
      apply hK; clear hK K
      refine L_reg [0, 3, 9, 10, 11, 20] (fun K hK => ?_)
      simp
      apply hK; clear hK K
      refine L_false (by simp) ?_
      refine L_reg [0, 3, 9, 10, 11] (fun K hK => ?_)
      simp [wrap_i64 (a := (1 : Int)) (by omega)]
      apply hK; clear hK K
      exact ⟨1, [.int .i64 a.length, .int .i64 1], by omega, by simp, 1, rfl, by omega, by simp, rfl⟩
    · refine L_reg [0, 3, 5, 9, 10, 11] (fun K hK => ?_)
      simp [q1 H hp]
      apply hK; clear hK K
      refine L_reg [0, 3, 9, 10, 11] (fun K hK => ?_)
      simp [hyl, wrap_i64 (a := (a.length : Int) + b.length) (by omega)]
      apply hK; clear hK K
      refine L_reg [0, 3, 9, 10, 11, 20] (fun K hK => ?_)
      simp
      apply hK; clear hK K
      refine L_false (by simp; omega) ?_
      refine L_reg [0, 3, 9, 10, 11] (fun K hK => ?_)
      simp [wrap_i64 (a := (2 : Int)) (by omega)]
      apply hK; clear hK K
      exact ⟨0, [.int .i64 ((a.length : Int) + b.length), .int .i64 2], by omega, by simp, 2, rfl, by omega, by simp, rfl⟩
  obtain rfl : i = 2 := by omega
  refine L_reg [0, 6] (fun K hK => ?_)
  simp [okFn_low]
  refine Grow_nil_ac (a.length + b.length) h1 (by omega) _ _ ?_
  simp
  apply hK; clear hK K
  have hE : Ext H (H ++ [.row (List.replicate (a.length + b.length) (.int .i64 0)) 0 0 false]) := .push _ _
  have hR : Room H.length [] (a.length + b.length) (H ++ [.row (List.replicate (a.length + b.length) (.int .i64 0)) 0 0 false]) := ⟨0, by simp⟩
  generalize H ++ [.row (List.replicate (a.length + b.length) (.int .i64 0)) 0 0 false] = H1 at hE hR ⊢
  have hpl : p < H.length := (List.getElem?_eq_some_iff.1 hp).1
  obtain ⟨H2, a1, hR2, k2⟩ := hR.app (hx.ext hE) (by omega) (by simp only [List.length_nil]; omega)
  have hE2 : Ext H H2 := ((KeepX.refl H.length H1).trans k2).new hE (Nat.le_refl _)
  rw [List.nil_append] at hR2
  simp only [List.length_nil, Nat.zero_add] at a1
  obtain ⟨H3, a2, hR3, k3⟩ := hR2.app (hy.ext hE2) (by omega) (by omega)
  have hE3 : Ext H H3 := ((KeepX.refl H.length H2).trans k3).new hE2 (Nat.le_refl _)
  refine L_reg [6, 25, 26, 27] (fun K hK => ?_)
  simp
  apply hK; clear hK K
  refine L_block (L_loopV [6, 27] (fun n vs H' => ∃ i : Nat, n = 2 - i ∧ ((i = 0 ∧ vs = [.slice (some H.length) 0 0 0 1 false, .int .i64 0] ∧ H' = H1) ∨ (i = 1 ∧ vs = [.slice (some H.length) 0 a.length 0 1 false, .int .i64 1] ∧ H' = H2) ∨ (i = 2 ∧ vs = [.slice (some H.length) 0 (a.length + b.length) 0 1 false, .int .i64 2] ∧ H' = H3))) _ [.slice (some H.length) 0 0 0 1 false, .int .i64 0] rfl ⟨0, rfl, .inl ⟨rfl, rfl, rfl⟩⟩ ?_)
  rintro _ _ H' ⟨i, rfl, ⟨rfl, rfl, rfl⟩ | ⟨rfl, rfl, rfl⟩ | ⟨rfl, rfl, rfl⟩⟩
  · refine L_reg [6, 25, 26, 27, 28] (fun K hK => ?_)
    simp
    apply hK; clear hK K
    refine L_true rfl ?_
    refine L_block ?_
    refine L_reg [6, 8, 25, 26, 27] (fun K hK => ?_)
    simp [q0 _ (hE.row hp)]
    apply hK; clear hK K
    refine L_reg [6, 25, 26, 27] (fun K hK => ?_)
    simp [a1]
    apply hK; clear hK K
    refine L_reg [6, 25, 26, 27] (fun K hK => ?_)
    simp [wrap_i64 (a := (1 : Int)) (by omega)]
    apply hK; clear hK K
    exact ⟨1, [_, _], by omega, rfl, 1, rfl, .inr (.inl ⟨rfl, by simp, rfl⟩)⟩
  · refine L_reg [6, 25, 26, 27, 28] (fun K hK => ?_)
    simp
    apply hK; clear hK K
    refine L_true rfl ?_
    refine L_block ?_
    refine L_reg [6, 8, 25, 26, 27] (fun K hK => ?_)
    simp [q1 _ (hE2.row hp)]
    apply hK; clear hK K
    refine L_reg [6, 25, 26, 27] (fun K hK => ?_)
    simp [a2]
    apply hK; clear hK K
    refine L_reg [6, 25, 26, 27] (fun K hK => ?_)
    simp [wrap_i64 (a := (2 : Int)) (by omega)]
    apply hK; clear hK K
    exact ⟨0, [_, _], by omega, rfl, 2, rfl, .inr (.inr ⟨rfl, by simp, rfl⟩)⟩
  · refine L_reg [6, 25, 26, 27, 28] (fun K hK => ?_)
    simp
    apply hK; clear hK K
    refine L_false rfl ?_
    refine L_exit ?_
    refine L_reg [2] (fun K hK => ?_)
    simp
    apply hK; clear hK K
    obtain ⟨st, hst⟩ := hR3
    have hfin := h (.slice (some H.length) 0 (a.length + b.length) 0 1 false) _ (.inr ⟨H.length, 0, st, Nat.le_refl _, by simp, by simpa [show a.length + b.length - a.length - b.length = 0 by omega] using hst⟩) hE3
    exact L_ret ⟨.inr rfl, _, rfl, hfin⟩
end Go.Proofs.YticlfkmjmhjiaaaGreatDoor

/- Ported: OrdC. -/
namespace Go.Proofs.YticlfkmjmhjiaaaGreatDoor
open Go Go.Proofs.YticlfkmjmhjiaaaGreatDoor.AX
set_option linter.unusedVariables false
theorem row75_2 (H : AH) (x y : AV) (hx : x.one = true) (hy : y.one = true) : rowV Tryz.prog 75 2 [(0, x), (1, y)] H = some (some (.slice (some H.length) 0 2 0 1 false), H ++ [.row [x, y] 0 2 false]) := by
  have hc : ∀ {v : AV}, v.one = true → acells v = [v] := fun {v} h => by cases v <;> simp [AV.one] at h <;> rfl
  obtain ⟨e, I, h1, h2, h3, h4, hzz⟩ := elT_some el75
  have hu : ∀ {v : AV}, v.one = true → v.isU = false := fun {v} h => by cases v <;> simp_all [AV.one, AV.isU]
  simp [rowV, h1, h2, h3, aFill, hu hx, hu hy, hc hx, hc hy, hzz, List.range_succ]
theorem joined_ac (x y : AV) (a b : List Int) (H : AH) (Q : AV → AH → Prop) (h1 : 1 ≤ a.length + b.length) (hl : a.length + b.length ≤ 100) (hx : Ls H x a) (hy : Ls H y b)
    (h : ∀ v H', OwnF H.length H' v ((a ++ b).map (.int .i64)) → Ext H H' → Q v H') : AC Tryz.prog 21 [x, y] H Q := by
  have ox : x.one = true := by obtain ⟨_, _, _, _, _, rfl, -⟩ := hx; rfl
  have oy : y.one = true := by obtain ⟨_, _, _, _, _, rfl, -⟩ := hy; rfl
  refine L_body 9 Tryz.func21 rfl rfl ?_
  refine L_reg [0, 1] (fun K hK => ?_)
  simp
  apply hK; clear hK K
  have hE : Ext H (H ++ [AObj.row [x, y] 0 2 false]) := .push _ _
  refine L_reg [4] (fun K hK => ?_)
  simp [okFn_low, row75_2 H x y ox oy]
  refine Concat2_ac x y a b H.length _ _ h1 hl (hx.ext hE) (hy.ext hE) ⟨2, by simp⟩ (fun v H' hO hE' => ?_)
  simp
  apply hK; clear hK K
  exact L_ret ⟨.inr rfl, _, rfl, (h v H' (hO.mono (by simp)) (hE.trans hE'))⟩
theorem sm_succ (x : Nat) : ∀ b : List Int, smS b ((x : Int) + 1) = smS b x + b.count (x : Int)
  | [] => rfl
  | y :: b => by
    have ih := sm_succ x b
    unfold smS at *
    rw [List.count_cons]
    by_cases c : y < x
    · have e : ¬ y = x := by omega
      rw [List.filter_cons_of_pos (by simp; omega), List.filter_cons_of_pos (by simpa using c)]
      simp [e]; omega
    · by_cases e : y = x
      · rw [List.filter_cons_of_pos (by simp; omega), List.filter_cons_of_neg (by simpa using c)]
        simp [e]; omega
      · rw [List.filter_cons_of_neg (by simp; omega), List.filter_cons_of_neg (by simpa using c)]
        simp [e]; omega
theorem sm_cn {n : Nat} {b : List Int} (h : Beg n b) : ∀ x : Nat, smS b x + cn b x = x
  | 0 => by
    have : smS b (0 : Nat) = 0 := by
      unfold smS
      rw [List.length_eq_zero_iff, List.filter_eq_nil_iff]
      intro y hy; have := h.lt y hy; simp; omega
    rw [this]; rfl
  | x + 1 => by
    have ih := sm_cn h x
    have h2 := sm_succ x b
    rw [h.nd.count] at h2
    rw [show ((x + 1 : Nat) : Int) = (x : Int) + 1 by omega, h2]
    simp only [cn]
    by_cases m : (x : Int) ∈ b
    · rw [if_pos m, if_pos m]; omega
    · rw [if_neg m, if_neg m]; omega
set_option maxRecDepth 100000 in
theorem following_ac (n : Nat) (v : AV) (b : List Int) (x : Nat) (H : AH) (Q : AV → AH → Prop) (h9 : n ≤ 9) (hb : Beg n b) (hl : b.length < n) (hx : x < n) (hv : Ls H v b) (h : Q (.int .i64 (folS n b x)) H) : AC Tryz.prog 38 [.int .i64 n, v, .int .i64 x] H Q := by
  refine AC.quiet (belB_int _ _ _ _) (fun Q h => ?_) Q h
  have hvl := ls_len hv
  refine L_body 42 Tryz.func38 rfl rfl ?_
  refine L_reg [0, 1, 2] (fun K hK => ?_)
  simp
  apply hK; clear hK K
  by_cases m : (x : Int) ∈ b
  · refine L_reg [0, 1, 2, 19] (fun K hK => ?_)
    simp [okFn_low]
    refine Contains_ac v b x _ _ (by omega) hv ?_
    simp [m, pickV]
    apply hK; clear hK K
    refine L_true rfl ?_
    refine L_reg [6] (fun K hK => ?_)
    simp
    apply hK; clear hK K
    have e : folS n b x = 0 := by unfold folS; rw [if_pos (.inl m)]
    rw [e] at h
    exact L_ret ⟨.inr rfl, _, rfl, h H (.refl _)⟩
  · refine L_reg [0, 1, 2, 19] (fun K hK => ?_)
    simp [okFn_low]
    refine Contains_ac v b x _ _ (by omega) hv ?_
    have hE1 : Ext H (H ++ [AObj.row [AV.int .i64 x] 0 1 false]) := .push _ _
    have hs : Ls (H ++ [AObj.row [AV.int .i64 x] 0 1 false]) (.slice (some H.length) 0 1 0 1 false) [(x : Int)] := Ls.row (ro := false) (l := [(x : Int)]) (s := 1) (by simp) false
    simp [okFn_low, m]
    refine joined_ac v _ b [(x : Int)] _ _ (by simp) (by simp; omega) (hv.ext hE1) hs (fun w H2 hO hE2 => ?_)
    have hE := hE1.trans hE2
    simp [okFn_low]
    refine turns_ac w (b ++ [(x : Int)]) _ _ (by simp; omega) hO.own.ls ?_
    simp [pickV]
    apply hK; clear hK K
    have hv2 := hv.ext hE
    have hvl2 := ls_len hv2
    cases ha : altB (b ++ [(x : Int)]) with
    | false =>
      refine L_true rfl ?_
      refine L_reg [6] (fun K hK => ?_)
      simp
      apply hK; clear hK K
      have e : folS n b x = 0 := by unfold folS; rw [if_pos (.inr ha)]
      rw [e] at h
      exact L_ret ⟨.inr rfl, _, rfl, h H2 hE⟩
    | true =>
      refine L_false rfl ?_
      have hsm := sm_cn hb x
      have hc := hb.cn
      have hmo := cn_mono b (j := x + 1) (k := n) (by omega)
      have h3 : cn b (x + 1) = cn b x + 1 := by simp [cn, m]
      have e0 : IntKind.i64.wrap ((n : Int) - b.length) = ((n - b.length : Nat) : Int) := by rw [wrap_i64 (by omega)]; omega
      have e1 : IntKind.i64.wrap ((x : Int) - (smS b x : Nat)) = ((cn b x : Nat) : Int) := by rw [wrap_i64 (by omega)]; omega
      have hf : folS n b x = eb (n - b.length) (rkS n b x) := by unfold folS; rw [if_neg (by simp [m, ha])]
      rw [hf] at h
      refine L_reg [1, 2, 7] (fun K hK => ?_)
      simp [hvl2, e0]
      apply hK; clear hK K
      refine L_reg [1, 7, 8] (fun K hK => ?_)
      simp [okFn_low]
      refine smaller7_ac v b x _ _ (by omega) hv2 ?_
      simp [e1]
      apply hK; clear hK K
      have hodd : ((b.length : Int).tmod 2 == 1) = decide (b.length % 2 = 1) := by
        rw [Int.tmod_eq_emod_of_nonneg (by omega)]
        by_cases c : b.length % 2 = 1
        · rw [show (b.length : Int) % 2 = 1 by omega]; simp [c]
        · rw [show (b.length : Int) % 2 = 0 by omega]; simp [c]
      refine L_reg [7, 8, 32] (fun K hK => ?_)
      simp [hvl2, hodd]
      apply hK; clear hK K
      have hrk : rkS n b x < n - b.length := by unfold rkS; split <;> omega
      refine L_dec (b.length % 2 = 1) rfl (fun c => ?_) (fun c => ?_)
      · have e2 : IntKind.i64.wrap (IntKind.i64.wrap (((n - b.length : Nat) : Int) - 1) - (cn b x : Nat)) = ((rkS n b x : Nat) : Int) := by
          rw [wrap_i64 (a := ((n - b.length : Nat) : Int) - 1) (by omega), wrap_i64 (by omega)]
          unfold rkS; rw [if_pos c]; omega
        refine L_reg [7, 8] (fun K hK => ?_)
        simp [e2]
        apply hK; clear hK K
        refine L_reg [6] (fun K hK => ?_)
        simp [okFn_low]
        refine begins_ac (n - b.length) (by omega) (by omega) _ _ (fun w2 H3 hO3 hE3 => ?_)
        obtain ⟨rz, pz, vz, hix, hld⟩ := ls_ix hO3.own.ls (i := rkS n b x) (by rw [ern_len]; omega)
        simp [hix, hld]
        apply hK; clear hK K
        exact L_ret ⟨.inr rfl, _, rfl, (by simpa [eb] using h H3 (hE.trans hE3))⟩
      · have e2 : cn b x = rkS n b x := by unfold rkS; rw [if_neg c]
        rw [e2]
        refine L_reg [6] (fun K hK => ?_)
        simp [okFn_low]
        refine begins_ac (n - b.length) (by omega) (by omega) _ _ (fun w2 H3 hO3 hE3 => ?_)
        obtain ⟨rz, pz, vz, hix, hld⟩ := ls_ix hO3.own.ls (i := rkS n b x) (by rw [ern_len]; omega)
        simp [hix, hld]
        apply hK; clear hK K
        exact L_ret ⟨.inr rfl, _, rfl, (by simpa [eb] using h H3 (hE.trans hE3))⟩
end Go.Proofs.YticlfkmjmhjiaaaGreatDoor

/- What the kernel is told beside the program's text: lists joined, turns, the examples. -/
namespace Go.Proofs.YticlfkmjmhjiaaaGreatDoor
open Go Go.Proofs.YticlfkmjmhjiaaaGreatDoor.AX

noncomputable def readN0 (v : AV) (H : AH) : Option (List Int) := match v with
  | .slice none 0 0 0 1 false => some []
  | v => readL v H
theorem readN0_ok {v : AV} {H : AH} {l : List Int} (h : readN0 v H = some l) : Ls H v l := by
  unfold readN0 at h
  split at h
  · cases h; exact Ls.nil H
  · exact (readL_ok h).1
theorem forceLI_eq {α : Type} : ∀ (l : List Int) (k : List Int → α), forceL l k = k l
  | [], _ => rfl
  | x :: l, k => by simp only [forceL, forceI_eq, forceLI_eq l]
noncomputable def joinX (args : List AV) (H : AH) : Option (AV × AH) := match args with
  | [x, y] => match readN0 x H, readN0 y H with
    | some a, some b => bif Nat.ble 1 (a.length + b.length) && Nat.ble (a.length + b.length) 100 then forceL (a ++ b) fun l => forceN H.length fun n => forceN l.length fun m => some (.slice (some n) 0 m 0 1 false, H ++ [.row (l.map (.int .i64)) 0 m false]) else none
    | _, _ => none
  | _ => none
theorem joinX_ok {args : List AV} {H : AH} {v : AV} {H' : AH} (h : joinX args H = some (v, H')) : AC Tryz.prog 21 args H fun v' H2 => v' = v ∧ H2 = H' := by
  unfold joinX at h
  split at h
  case h_2 => cases h
  rename_i x y
  split at h
  case h_2 => cases h
  rename_i a b ha hb
  cases hc : (Nat.ble 1 (a.length + b.length) && Nat.ble (a.length + b.length) 100) with
  | false => rw [hc] at h; cases h
  | true =>
    rw [hc, cond_true] at h
    simp only [Bool.and_eq_true, Nat.ble_eq] at hc
    rw [forceLI_eq, forceN_eq, forceN_eq] at h
    obtain ⟨rfl, rfl⟩ := Prod.mk.inj (Option.some.inj h)
    refine AC.tidy (l := (a ++ b).map (.int .i64)) (fun e => ?_) (belB_ints _ _) (fun Q hQ => joined_ac x y a b H Q hc.1 hc.2 (readN0_ok ha) (readN0_ok hb) hQ) _ ?_
    · have : (a ++ b).length = 0 := by simpa using congrArg List.length e
      rw [List.length_append] at this
      omega
    · rw [List.length_map]; exact ⟨rfl, rfl⟩
def begB (n : Nat) (b : List Int) : Bool := b.all (fun y => decide (0 ≤ y) && decide (y < (n : Int))) && decide b.Nodup && Nat.beq (cn b n + b.length) n
theorem begB_ok {n : Nat} {b : List Int} (h : begB n b = true) : Beg n b := by
  simp only [begB, Bool.and_eq_true, List.all_eq_true, decide_eq_true_eq] at h
  exact ⟨h.1.2, fun y hy => h.1.1 y hy, Nat.eq_of_beq_eq_true (by simpa using h.2)⟩
noncomputable def folX (args : List AV) (H : AH) : Option (AV × AH) := match args with
  | [.int .i64 (.ofNat n), v, .int .i64 (.ofNat x)] => match readN0 v H with
    | some b => bif Nat.ble n 9 && begB n b && Nat.blt b.length n && Nat.blt x n then forceI (folS n b x) fun y => some (.int .i64 y, H) else none
    | none => none
  | [.int .i64 (.ofNat n)] => bif Nat.ble 1 n && Nat.ble n 9 then forceI (ec n) fun y => some (.int .i64 y, H) else none
  | _ => none
theorem folX_ok {f : FuncId} {args : List AV} {H : AH} {v : AV} {H' : AH} (hf : f = 38 ∧ args.length = 3 ∨ f = 19 ∧ args.length = 1) (h : folX args H = some (v, H')) : AC Tryz.prog f args H fun v' H2 => v' = v ∧ H2 = H' := by
  unfold folX at h
  split at h
  · rename_i n w x
    rcases hf with ⟨rfl, -⟩ | ⟨rfl, hl⟩
    · split at h
      · rename_i b hb
        rcases cond_some h with ⟨e, hx⟩ | h
        · simp only [Bool.and_eq_true, Nat.ble_eq, Nat.blt_eq] at e
          rw [forceI_eq] at hx
          obtain ⟨rfl, rfl⟩ := Prod.mk.inj (Option.some.inj hx)
          exact following_ac n w b x H _ e.1.1.1 (begB_ok e.1.1.2) e.1.2 e.2 (readN0_ok hb) ⟨rfl, rfl⟩
        · cases h
      · cases h
    · cases hl
  · rename_i n
    rcases hf with ⟨rfl, hl⟩ | ⟨rfl, -⟩
    · cases hl
    · rcases cond_some h with ⟨e, hx⟩ | h
      · simp only [Bool.and_eq_true, Nat.ble_eq] at e
        rw [forceI_eq] at hx
        obtain ⟨rfl, rfl⟩ := Prod.mk.inj (Option.some.inj hx)
        exact count_ac n e.1 e.2 H _ ⟨rfl, rfl⟩
      · cases h
  · cases h
noncomputable def extW (f : FuncId) (args : List AV) (H : AH) : Option (AV × AH) := bif Nat.beq f 86 then possX args H else bif Nat.beq f 104 then firstX args H else bif Nat.beq f 24 then turnX args H else bif Nat.beq f 21 then joinX args H
  else bif Nat.beq f 38 && Nat.beq args.length 3 then folX args H else bif Nat.beq f 19 && Nat.beq args.length 1 then folX args H else none
theorem extW_ok {f : FuncId} {args : List AV} {H : AH} {v : AV} {H' : AH} (h : extW f args H = some (v, H')) : AC Tryz.prog f args H fun v' H2 => v' = v ∧ H2 = H' := by
  unfold extW at h
  rcases cond_some h with ⟨e, hx⟩ | h
  · have := Nat.eq_of_beq_eq_true e; subst this; exact possX_ok hx
  rcases cond_some h with ⟨e, hx⟩ | h
  · have := Nat.eq_of_beq_eq_true e; subst this; exact firstX_ok hx
  rcases cond_some h with ⟨e, hx⟩ | h
  · have := Nat.eq_of_beq_eq_true e; subst this; exact turnX_ok hx
  rcases cond_some h with ⟨e, hx⟩ | h
  · have := Nat.eq_of_beq_eq_true e; subst this; exact joinX_ok hx
  rcases cond_some h with ⟨e, hx⟩ | h
  · simp only [Bool.and_eq_true] at e
    exact folX_ok (.inl ⟨Nat.eq_of_beq_eq_true e.1, Nat.eq_of_beq_eq_true e.2⟩) hx
  rcases cond_some h with ⟨e, hx⟩ | h
  · simp only [Bool.and_eq_true] at e
    exact folX_ok (.inr ⟨Nat.eq_of_beq_eq_true e.1, Nat.eq_of_beq_eq_true e.2⟩) hx
  cases h
noncomputable def cxz : Cx Tryz.prog where
  good := goodT
  keep := keepT
  ext := extW
theorem cxz_ok : cxz.Ok where
  mixed := cx_ok.mixed
  ord f h := cx_ok.ord f h
  ext _f _args _H _v _H' h := extW_ok h
set_option maxRecDepth 100000 in
theorem works_run : callN (runZ cxz 3000) 13 [] (gRows gs) = some (.bool true, gRows gs) := by kernel_rfl
theorem works_ac (H : AH) (Q : AV → AH → Prop) (hg : HasG gs H) (h : Q (.bool true) H) : AC Tryz.prog 13 [] H Q := AC_kernG cxz_ok 3000 gs hg works_run .nil (.bool _) h
end Go.Proofs.YticlfkmjmhjiaaaGreatDoor

/- Turning orders have one major number: all orders of at most seven cigars are tried, by the kernel. -/
namespace Go.Proofs.YticlfkmjmhjiaaaGreatDoor
open Go Go.Proofs.YticlfkmjmhjiaaaGreatDoor.AX

noncomputable def extT (f : FuncId) (args : List AV) (H : AH) : Option (AV × AH) := match args with
  | [] => bif Nat.beq f 13 then (match gfind H 0 with | some [.int .i64 (.ofNat 24), .int .i64 (.ofNat 24)] => some (.bool true, H) | _ => none) else none
  | _ => extW f args H
theorem extT_ok {f : FuncId} {args : List AV} {H : AH} {v : AV} {H' : AH} (h : extT f args H = some (v, H')) : AC Tryz.prog f args H fun v' H2 => v' = v ∧ H2 = H' := by
  unfold extT at h
  split at h
  · rcases cond_some h with ⟨e, hx⟩ | h
    · have := Nat.eq_of_beq_eq_true e
      subst this
      split at hx
      · rename_i hg
        obtain ⟨rfl, rfl⟩ := Prod.mk.inj (Option.some.inj hx)
        refine works_ac _ _ ?_ ⟨rfl, rfl⟩
        intro x hx
        simp only [gs, List.mem_singleton] at hx
        subst hx
        exact ⟨hg, .cons (.int _ _) (.cons (.int _ _) .nil)⟩
      · cases hx
    · cases h
  · exact extW_ok h
noncomputable def cxt : Cx Tryz.prog where
  good := goodT
  keep := keepT
  ext := extT
theorem cxt_ok : cxt.Ok where
  mixed := cx_ok.mixed
  ord f h := cx_ok.ord f h
  ext _f _args _H _v _H' h := extT_ok h
/-- How many turning orders there are. -/
def cnt7 : Nat → Nat
  | 1 => 1 | 2 => 1 | 3 => 2 | 4 => 5 | 5 => 16 | 6 => 61 | 7 => 272 | _ => 0
noncomputable def cntR (n : Nat) : Bool := match callN (runZ cxz 3000) 5 [.int .i64 (.ofNat n)] [] with
  | some (.tuple [.int .i64 (.ofNat c), .int .i64 (.ofNat 0)], []) => Nat.beq c (cnt7 n)
  | _ => false
set_option maxRecDepth 100000 in
theorem cnt_tab : ((List.range 8).all fun n => Nat.beq n 0 || cntR n) = true := by kernel_rfl
theorem cnt_ac {n : Nat} (h1 : 1 ≤ n) (h2 : n ≤ 7) (H : AH) (Q : AV → AH → Prop) (h : Q (.tuple [.int .i64 (cnt7 n), .int .i64 0]) H) : AC Tryz.prog 5 [.int .i64 n] H Q := by
  have h3 := List.all_eq_true.1 cnt_tab n (List.mem_range.2 (by omega))
  have : Nat.beq n 0 = false := by
    cases h3 : Nat.beq n 0 with
    | false => rfl
    | true => have := Nat.eq_of_beq_eq_true h3; omega
  rw [this, Bool.false_or] at h3
  unfold cntR at h3
  split at h3
  · rename_i c hc
    rw [Nat.eq_of_beq_eq_true h3] at hc
    exact AC_kernZ cxz_ok 3000 hc (.cons (.int _ _) .nil) (.tuple (.cons (.int _ _) (.cons (.int _ _) .nil))) h
  · cases h3
noncomputable def rest6 : List Code := restOf Tryz.f3 6
noncomputable def tk (n x : Nat) : Bool := match callN (runZ cxt 3000) 6 [.int .i64 (.ofNat n), .int .i64 (.ofNat x)] (gRows gs) with
  | some (.tuple [l, e], H') => kernT cxt Tryz.f3 (keepT 3) 134 3000 rest6 [(5, .int .i64 (.ofNat n)), (7, e), (8, l)] H'
  | _ => false
set_option maxRecDepth 100000 in
theorem topTurning_ac (a b : Nat) (ha : a < 256) (hb : b < 65536) (H : AH) (hg : HasG gs H) (htab : ∀ n x, 1 ≤ n → n ≤ 7 → x < cnt7 n → tk n x = true) : AC Tryz.prog 3 [.int .u8 a, .int .u16 b] H fun v _ => v = .bool true := by
  refine AC.of_nilG (.cons (.int _ _) (.cons (.int _ _) .nil)) ?_ H hg
  refine L_body 134 Tryz.func3 rfl rfl ?_
  refine L_reg [0, 1] (fun K hK => ?_)
  simp
  apply hK; clear hK K
  have t1 : ((a : Int)).tmod ((7 : Nat) : Int) = ((a % 7 : Nat) : Int) := by rw [Int.tmod_eq_emod_of_nonneg (by omega)]; rfl
  obtain ⟨n, hn⟩ : ∃ n, n = 1 + a % 7 := ⟨_, rfl⟩
  have hn1 : 1 ≤ n ∧ n ≤ 7 := by omega
  have hn2 : (1 : Int) + (a : Int) % 7 = n := by omega
  rw [show ((7 : Nat) : Int) = 7 from rfl] at t1
  refine L_reg [1, 5] (fun K hK => ?_)
  simp [wrap_i64 (a := (a : Int)) (by omega), t1, hn2, wrap_i64 (a := (n : Int)) (by omega)]
  apply hK; clear hK K
  refine L_reg [1, 5, 6, 7] (fun K hK => ?_)
  simp [okFn_low]
  refine cnt_ac hn1.1 hn1.2 _ _ ?_
  simp
  apply hK; clear hK K
  have hc : 1 ≤ cnt7 n ∧ cnt7 n ≤ 272 := by
    have : n = 1 ∨ n = 2 ∨ n = 3 ∨ n = 4 ∨ n = 5 ∨ n = 6 ∨ n = 7 := by omega
    rcases this with rfl | rfl | rfl | rfl | rfl | rfl | rfl <;> decide
  obtain ⟨c, hc2⟩ : ∃ c, cnt7 n = c := ⟨_, rfl⟩
  have ht := htab n (b % c) hn1.1 hn1.2 (by rw [hc2]; exact Nat.mod_lt _ (by omega))
  rw [hc2] at hc ⊢
  refine L_reg [1, 5, 6, 36] (fun K hK => ?_)
  simp [pickV]
  apply hK; clear hK K
  refine L_false (by simp; omega) ?_
  have t2 : ((b : Int)).tmod (c : Int) = ((b % c : Nat) : Int) := by rw [Int.tmod_eq_emod_of_nonneg (by omega)]; rfl
  have hne : ¬ c = 0 := by omega
  generalize b % c = x at *
  unfold tk at ht
  split at ht
  case h_2 => cases ht
  rename_i l e H' hA
  have hAt : ∀ Q : AV → AH → Prop, Q (.tuple [l, e]) H' → AC Tryz.prog 6 [.int .i64 n, .int .i64 x] (gRows gs) Q := fun Q hq => (AC_runZ cxt_ok 3000 hA).mono fun v H2 h => by rw [h.1, h.2]; exact hq
  refine L_reg [5, 7, 8] (fun K hK => ?_)
  simp [okFn_low, wrap_i64 (a := (b : Int)) (by omega), t2, hne]
  refine hAt _ ?_
  simp
  apply hK; clear hK K
  exact L_kernT cxt_ok (keepT 3) 3000 (by kernel_rfl) ht (by kernel_rfl)
theorem u8_of {a : Int} (w : (Lit.int .u8 a).wf = true) : ∃ n : Nat, a = n ∧ n < 256 := by
  have h : IntKind.u8.min ≤ a ∧ a ≤ IntKind.u8.max := by simpa [Lit.wf] using w
  have h1 : IntKind.u8.min = 0 := rfl
  have h2 : IntKind.u8.max = 255 := rfl
  exact ⟨a.toNat, by omega, by omega⟩
theorem u16_of {a : Int} (w : (Lit.int .u16 a).wf = true) : ∃ n : Nat, a = n ∧ n < 65536 := by
  have h : IntKind.u16.min ≤ a ∧ a ≤ IntKind.u16.max := by simpa [Lit.wf] using w
  have h1 : IntKind.u16.min = 0 := rfl
  have h2 : IntKind.u16.max = 65535 := rfl
  exact ⟨a.toNat, by omega, by omega⟩
end Go.Proofs.YticlfkmjmhjiaaaGreatDoor
