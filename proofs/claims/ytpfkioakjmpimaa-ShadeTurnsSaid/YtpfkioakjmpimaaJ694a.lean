/- Joined texts: Base, TF, Perm, App, Seats, SrtM, OSort1, OSort2, OSort3, OPart, OPart2, OHeap, OHeap2, OBrk, OPins, OPdq, OSort, Box. -/
import Derived.Test.YtpfkioakjmpimaaChecked
import Derived.Test.YtpfkioakjmpimaaAxQ
import Derived.Test.YtpfkioakjmpimaaAxR
/- What is run, and what is kept between its statements. -/
namespace Go.Proofs.Ytpfkioakjmpimaa
open Go Go.Proofs.Ytpfkioakjmpimaa.AX Go.RowKit
set_option maxRecDepth 100000

def keepT (f : Nat) : List Nat :=
  bif Nat.ble f 72 then bif Nat.ble f 36 then bif Nat.ble f 18 then bif Nat.ble f 9 then bif Nat.ble f 4 then bif Nat.ble f 2 then bif Nat.ble f 1 then bif Nat.ble f 0 then [] else [] else [] else bif Nat.ble f 3 then [0, 1, 2, 3, 8, 9, 10, 11, 12, 13, 14, 15, 16, 19] else [0, 1, 4, 5, 6, 7, 8, 9, 10, 11, 12, 13, 14, 15, 16, 19] else bif Nat.ble f 7 then bif Nat.ble f 6 then bif Nat.ble f 5 then [0, 1, 4, 5, 6, 7, 8, 9, 10, 11, 12, 15] else [0, 1, 2, 3, 8, 9, 10, 11, 12, 13, 14, 15, 16, 17, 18, 19, 20, 21, 22, 25, 64] else [0, 1, 2, 3, 4, 5, 6, 7, 8, 9, 10, 11, 12, 13, 14, 15, 16, 17, 18, 19, 30, 36, 56, 101, 103] else bif Nat.ble f 8 then [0, 1, 2, 3, 4, 7, 8, 9, 10, 11, 12, 13, 14, 15, 16, 17, 18, 19, 20, 26, 27, 28, 85, 89, 107, 110] else [0, 1, 2, 3, 4, 5, 6, 7, 8, 9, 10, 11, 12, 13, 14, 15, 23, 24, 25, 43, 44, 45, 46, 81] else bif Nat.ble f 14 then bif Nat.ble f 12 then bif Nat.ble f 11 then bif Nat.ble f 10 then [0, 2, 3, 4, 5, 6, 7, 8, 9, 10, 11, 12, 13, 14, 15, 17, 19, 24, 25, 26, 37, 38, 39, 40, 56] else [0, 1, 4, 5, 6, 7, 8, 9, 10, 11, 12, 28, 32] else [0, 1, 2, 3, 6, 7, 8, 9, 10, 11, 13, 14, 15, 16, 17, 18, 19, 20, 21, 22, 23, 24, 25, 26, 27, 28, 29, 30, 31, 32, 33, 34, 35, 36, 37, 57, 58, 59, 60, 126, 130, 131, 132, 133, 201, 203, 233] else bif Nat.ble f 13 then [0, 1, 2, 3, 4, 8, 9, 10, 11, 12, 13, 14, 15, 16, 17] else [0, 1, 2, 3, 4, 5, 6, 7, 8, 9, 10, 11, 12, 13, 14, 15, 16, 17, 18, 19, 80] else bif Nat.ble f 16 then bif Nat.ble f 15 then [0, 1, 2, 3, 4, 5, 6, 7, 8, 9, 10, 11, 12, 13, 14, 15, 16, 17, 18, 19, 80] else [0, 1, 4, 5, 6, 10] else bif Nat.ble f 17 then [0, 1, 4, 5, 6, 10] else [0, 1, 4, 5, 6, 10] else bif Nat.ble f 27 then bif Nat.ble f 23 then bif Nat.ble f 21 then bif Nat.ble f 20 then bif Nat.ble f 19 then [0, 1, 4, 5, 6, 10] else [0, 2, 3, 5, 9, 11, 12, 13, 14, 22] else [0, 2, 3, 6, 9, 13, 21] else bif Nat.ble f 22 then [0, 1, 2, 3, 8, 9, 10, 14, 26, 32] else [0, 1, 2, 3, 8, 9, 10, 11, 15, 27, 42] else bif Nat.ble f 25 then bif Nat.ble f 24 then [0, 1, 4, 5, 6, 10] else [0, 1, 4, 5, 6, 10] else bif Nat.ble f 26 then [0, 1, 3, 4, 5, 6, 10] else [0, 1, 4, 5, 6, 10] else bif Nat.ble f 32 then bif Nat.ble f 30 then bif Nat.ble f 29 then bif Nat.ble f 28 then [0, 1, 4, 5, 6, 10, 14] else [0, 1, 4, 5, 6, 7, 8, 9, 22, 24, 42] else [0, 1, 4, 5, 10, 14, 25] else bif Nat.ble f 31 then [0, 1, 4, 5, 6, 10] else [0, 1, 4, 5, 6, 10] else bif Nat.ble f 34 then bif Nat.ble f 33 then [0, 1, 4, 5, 6, 10] else [0, 1, 4, 5, 6, 10] else bif Nat.ble f 35 then [0, 2, 3, 4, 5, 6, 10, 12, 13, 14, 15, 26, 31] else [0, 2, 3, 4, 7, 10, 14, 25, 33] else bif Nat.ble f 54 then bif Nat.ble f 45 then bif Nat.ble f 41 then bif Nat.ble f 39 then bif Nat.ble f 38 then bif Nat.ble f 37 then [0, 2, 3, 6] else [0, 2, 3, 6] else [0, 1, 4, 5, 17] else bif Nat.ble f 40 then [0, 1, 4, 5, 15] else [0, 1, 4, 5, 6, 7, 8, 21, 22, 23, 24] else bif Nat.ble f 43 then bif Nat.ble f 42 then [0, 1, 4, 5, 6, 7, 8, 9, 10, 24, 26, 31, 35, 46] else [0, 2, 3, 4, 5, 6, 7, 8, 9, 16, 19, 20, 21, 22, 23, 27, 28, 29] else bif Nat.ble f 44 then [0, 2, 3, 4, 5, 6, 7, 8, 19, 21, 26, 34, 42] else [0, 1, 2, 4, 5, 7, 15, 16, 17, 18] else bif Nat.ble f 50 then bif Nat.ble f 48 then bif Nat.ble f 47 then bif Nat.ble f 46 then [0, 2, 3] else [0, 1, 2] else [0, 1, 2, 3, 4] else bif Nat.ble f 49 then [0, 1, 2, 3, 5, 12] else [0, 2] else bif Nat.ble f 52 then bif Nat.ble f 51 then [0, 1, 4, 5, 6, 7, 9, 10, 11, 18, 24] else [0, 2, 4] else bif Nat.ble f 53 then [0, 2, 3, 5, 6, 7, 8, 9] else [0, 1, 2, 3, 5, 12] else bif Nat.ble f 63 then bif Nat.ble f 59 then bif Nat.ble f 57 then bif Nat.ble f 56 then bif Nat.ble f 55 then [0, 1, 2, 3, 4, 6, 7, 8, 9, 10, 11, 12, 13, 15, 18, 44, 63, 88] else [0, 2, 3, 9] else [0] else bif Nat.ble f 58 then [0, 2] else [0, 1, 4] else bif Nat.ble f 61 then bif Nat.ble f 60 then [0, 1, 4, 5, 6, 7, 14] else [0, 1, 4] else bif Nat.ble f 62 then [0, 1, 4, 5, 6, 7, 14] else [0, 1, 4, 7, 11] else bif Nat.ble f 68 then bif Nat.ble f 66 then bif Nat.ble f 65 then bif Nat.ble f 64 then [0, 1, 2, 6] else [0, 1, 4, 5, 6, 7, 8, 22, 23, 24] else [0, 1, 4, 10] else bif Nat.ble f 67 then [0, 2, 3, 4, 5, 7, 13, 21] else [0, 1, 4] else bif Nat.ble f 70 then bif Nat.ble f 69 then [0, 1, 4, 5, 6, 7, 8, 9, 18, 45] else [0, 1, 4, 5, 6, 7, 8, 18, 24] else bif Nat.ble f 71 then [0, 1, 3] else [0, 1, 4, 5, 7, 8, 9, 16] else bif Nat.ble f 108 then bif Nat.ble f 90 then bif Nat.ble f 81 then bif Nat.ble f 77 then bif Nat.ble f 75 then bif Nat.ble f 74 then bif Nat.ble f 73 then [0, 1, 3, 4] else [0, 1, 4, 5, 6, 7, 8, 9, 18, 45] else [0, 1, 4] else bif Nat.ble f 76 then [0, 2, 3, 4, 5, 7, 8, 9, 14] else [0, 1, 4, 5, 9, 17] else bif Nat.ble f 79 then bif Nat.ble f 78 then [0, 2, 3, 8, 24] else [0, 2] else bif Nat.ble f 80 then [0, 2] else [0, 1, 4, 5, 6, 9, 13, 16, 22] else bif Nat.ble f 86 then bif Nat.ble f 84 then bif Nat.ble f 83 then bif Nat.ble f 82 then [0, 2, 3, 4, 5, 10, 16, 17, 18] else [0, 1, 2, 6, 7, 8, 9, 10, 11, 21] else [0, 1, 4] else bif Nat.ble f 85 then [0, 1, 2, 6, 7, 8, 19, 32] else [0, 2] else bif Nat.ble f 88 then bif Nat.ble f 87 then [0, 2] else [0, 1, 4, 5, 6, 7, 8, 14] else bif Nat.ble f 89 then [0, 1, 2, 3, 4, 7, 8, 9, 14, 18, 19, 20, 21, 34] else [0, 2] else bif Nat.ble f 99 then bif Nat.ble f 95 then bif Nat.ble f 93 then bif Nat.ble f 92 then bif Nat.ble f 91 then [0, 2, 3, 4, 7, 15] else [0, 2, 3, 5, 6, 7, 8, 9] else [0, 1, 4, 5, 6, 7, 13, 14, 15] else bif Nat.ble f 94 then [0, 1, 4, 5, 6, 11, 43] else [0, 2, 3, 5, 6, 7, 8, 9] else bif Nat.ble f 97 then bif Nat.ble f 96 then [0, 1, 4, 9] else [0, 1, 4, 5, 6, 9, 15, 26] else bif Nat.ble f 98 then [0, 1, 4, 5, 9, 20] else [0, 2, 3, 4, 21, 25, 37] else bif Nat.ble f 104 then bif Nat.ble f 102 then bif Nat.ble f 101 then bif Nat.ble f 100 then [0, 1, 3] else [0, 1, 2, 3, 4] else [0, 1, 4, 5, 6, 11, 12, 13, 16, 19] else bif Nat.ble f 103 then [0, 2, 3, 5, 6, 8, 9, 10, 11, 12, 20, 25, 26, 27, 28] else [0, 1, 4, 5, 7, 8, 9, 10, 11, 16] else bif Nat.ble f 106 then bif Nat.ble f 105 then [0, 1, 2, 4, 5, 6, 7] else [0, 1, 2, 3, 8, 9, 10, 11, 12, 13, 14, 15, 16, 17, 18, 23, 29, 35, 50, 68, 72, 87, 113] else bif Nat.ble f 107 then [0, 2] else [0, 1, 4] else bif Nat.ble f 126 then bif Nat.ble f 117 then bif Nat.ble f 113 then bif Nat.ble f 111 then bif Nat.ble f 110 then bif Nat.ble f 109 then [0, 1, 2, 4, 8, 22, 28] else [0, 2] else [0, 1, 4, 6, 16] else bif Nat.ble f 112 then [0, 1, 2, 6, 7, 12, 30] else [0, 1, 2, 6, 7, 8, 9, 10, 19, 30] else bif Nat.ble f 115 then bif Nat.ble f 114 then [0, 1, 2, 6, 7, 8, 9, 10, 15, 33, 43] else [0, 1, 2, 6, 7, 8, 9, 10, 11, 12, 32, 34, 49, 51, 54] else bif Nat.ble f 116 then [0, 1, 2, 6, 7, 13] else [0, 1, 2, 6, 7, 8, 9, 10, 14, 32, 37, 41, 61, 65, 78, 98, 103, 116] else bif Nat.ble f 122 then bif Nat.ble f 120 then bif Nat.ble f 119 then bif Nat.ble f 118 then [0, 1, 4] else [0, 1, 2, 3, 8, 9, 10, 43, 59, 64] else [0, 1, 2, 3, 8, 9, 10, 11, 43, 60, 65, 112, 129, 134] else bif Nat.ble f 121 then [0, 2, 4, 8] else [0, 2, 4, 8, 14] else bif Nat.ble f 124 then bif Nat.ble f 123 then [0, 1, 2, 3, 8, 9, 16, 36, 52] else [0, 2] else bif Nat.ble f 125 then [0, 2] else [0, 1, 2, 6] else bif Nat.ble f 135 then bif Nat.ble f 131 then bif Nat.ble f 129 then bif Nat.ble f 128 then bif Nat.ble f 127 then [0, 1, 2, 3, 4, 10] else [0, 1, 2, 3, 8, 9, 18] else [] else bif Nat.ble f 130 then [] else [] else bif Nat.ble f 133 then bif Nat.ble f 132 then [] else [] else bif Nat.ble f 134 then [] else [] else bif Nat.ble f 140 then bif Nat.ble f 138 then bif Nat.ble f 137 then bif Nat.ble f 136 then [] else [] else [] else bif Nat.ble f 139 then [] else [] else bif Nat.ble f 142 then bif Nat.ble f 141 then [] else [] else bif Nat.ble f 143 then [] else []

def goodT (f : Nat) : Bool := Nat.ble 3 f && Nat.ble f 128 && !(Nat.beq f 13) && !(Nat.beq f 89) && !(Nat.beq f 97)

noncomputable def cx : Cx Try.prog where
  good := goodT
  keep := keepT
  ext _ _ _ := none

theorem okAll : (List.range 129).all (fun f => !(Nat.ble 3 f) || okFn Try.prog f) = true := by kernel_rfl
theorem okFn_low {f : Nat} (h3 : 3 ≤ f) (h : f ≤ 128) : okFn Try.prog f = true := by
  have := (List.all_eq_true.1 okAll) f (List.mem_range.2 (by omega))
  have h1 : Nat.ble 3 f = true := Nat.ble_eq_true_of_le h3
  simpa [h1] using this

theorem goodAll : (List.range 129).all (fun f => !goodT f || fnOrd Try.prog f) = true := by kernel_rfl

theorem cx_ok : cx.Ok where
  mixed := by kernel_rfl
  ord f h := by
    have hlt : f < 129 := by
      have h1 : Nat.ble f 128 = true := by
        simp only [cx, goodT, Bool.and_eq_true] at h
        exact h.1.1.1.2
      exact Nat.lt_succ_of_le (Nat.le_of_ble_eq_true h1)
    have := (List.all_eq_true.1 goodAll) f (List.mem_range.2 hlt)
    have hg : goodT f = true := h
    rw [hg] at this
    simpa using this
  ext f args H v H' h := by cases h
theorem mixed : Try.prog.follows .mixedOrders = true := by kernel_rfl
end Go.Proofs.Ytpfkioakjmpimaa

/- What the steps ask of the types of this program. -/
namespace Go.Proofs.Ytpfkioakjmpimaa
open Go Go.Proofs.Ytpfkioakjmpimaa.AX
@[simp] theorem ld3 (H : AH) (r off ver : Nat) : loadV Try.prog 3 H (.ptr r off ver) = ld H r off ver := ld_sc (by kernel_rfl) ..
theorem sc3 : scal Try.prog 3 = true := by kernel_rfl
theorem zt3 : zeroT Try.prog 3 = some [.int .i64 0] := by kernel_rfl
@[simp] theorem ld4 (H : AH) (r off ver : Nat) : loadV Try.prog 4 H (.ptr r off ver) = ld H r off ver := ld_sc (by kernel_rfl) ..
theorem sc4 : scal Try.prog 4 = true := by kernel_rfl
theorem zt4 : zeroT Try.prog 4 = some [.bool false] := by kernel_rfl
@[simp] theorem ld5 (H : AH) (r off ver : Nat) : loadV Try.prog 5 H (.ptr r off ver) = ld H r off ver := ld_sc (by kernel_rfl) ..
theorem sc5 : scal Try.prog 5 = true := by kernel_rfl
@[simp] theorem ld9 (H : AH) (r off ver : Nat) : loadV Try.prog 9 H (.ptr r off ver) = ld H r off ver := ld_sc (by kernel_rfl) ..
theorem sc9 : scal Try.prog 9 = true := by kernel_rfl
@[simp] theorem ld22 (H : AH) (r off ver : Nat) : loadV Try.prog 22 H (.ptr r off ver) = ld H r off ver := ld_sc (by kernel_rfl) ..
theorem sc22 : scal Try.prog 22 = true := by kernel_rfl
theorem slz22 : slSz Try.prog 22 = some 1 := by kernel_rfl
@[simp] theorem len22 (r : Option Nat) (off len ver sz : Nat) (full : Bool) : aLen Try.prog 22 (.slice r off len ver sz full) = some (.int .i64 len) := len_sl slz22 ..
@[simp] theorem lenp22 (r off len ver sz : Nat) : aLen Try.prog 22 (.part r off len ver sz) = some (.int .i64 len) := len_part slz22 ..
@[simp] theorem ixa22 (r off len ver : Nat) (full : Bool) (k : IntKind) (i : Int) : aIndexAddr Try.prog 22 (.slice (some r) off len ver 1 full) (.int k i) = if 0 ≤ i ∧ i < len then some (.ptr r (off + i.toNat * 1) ver) else none := ixa_sl slz22 ..
@[simp] theorem ixap22 (r off len ver : Nat) (k : IntKind) (i : Int) : aIndexAddr Try.prog 22 (.part r off len ver 1) (.int k i) = if 0 ≤ i ∧ i < len then some (.ptr r (off + i.toNat * 1) ver) else none := ixa_part slz22 ..
theorem el22 : elT Try.prog 22 = true := by kernel_rfl
theorem elz22 : elZ Try.prog 22 = some (.int .i64 0) := by kernel_rfl
@[simp] theorem row22 (H : AH) (b : Int) : rowV Try.prog 22 1 [(0, .int .i64 b)] H = some (some (.slice (some H.length) 0 1 0 1 false), H ++ [.row [.int .i64 b] 0 1 false]) := row1 el22 rfl rfl
theorem zt22 : zeroT Try.prog 22 = some [.slice none 0 0 0 1 false] := by kernel_rfl
theorem ar41 : arSz Try.prog 41 = some (7, 1) := by kernel_rfl
@[simp] theorem ixa41 (r off ver : Nat) (k : IntKind) (i : Int) : aIndexAddr Try.prog 41 (.ptr r off ver) (.int k i) = if 0 ≤ i ∧ i < (7 : Nat) then some (.ptr r (off + i.toNat * 1) ver) else none := ixa_ar ar41 ..
theorem ag41 : aggSz Try.prog 41 = some 7 := by kernel_rfl
@[simp] theorem ld41 (H : AH) (r off ver : Nat) : loadV Try.prog 41 H (.ptr r off ver) = (ldn H r ver 7 off).map .agg := load_agg ag41 ..
theorem zt41 : zeroT Try.prog 41 = some [.int .u8 0, .int .u8 0, .int .u8 0, .int .u8 0, .int .u8 0, .int .u8 0, .int .u8 0] := by kernel_rfl
theorem ag43 : aggSz Try.prog 43 = some 8 := by kernel_rfl
@[simp] theorem ld43 (H : AH) (r off ver : Nat) : loadV Try.prog 43 H (.ptr r off ver) = (ldn H r ver 8 off).map .agg := load_agg ag43 ..
@[simp] theorem fa43_0 (r off ver : Nat) : aFieldAddr Try.prog 43 (.ptr r off ver) 0 = some (.ptr r (off + 0) ver) := fld_ptr (by kernel_rfl) ..
@[simp] theorem fa43_1 (r off ver : Nat) : aFieldAddr Try.prog 43 (.ptr r off ver) 1 = some (.ptr r (off + 1) ver) := fld_ptr (by kernel_rfl) ..
theorem zt43 : zeroT Try.prog 43 = some [.int .u8 0, .int .u8 0, .int .u8 0, .int .u8 0, .int .u8 0, .int .u8 0, .int .u8 0, .int .u8 0] := by kernel_rfl
@[simp] theorem ld47 (H : AH) (r off ver : Nat) : loadV Try.prog 47 H (.ptr r off ver) = ld H r off ver := ld_sc (by kernel_rfl) ..
theorem sc47 : scal Try.prog 47 = true := by kernel_rfl
@[simp] theorem ld50 (H : AH) (r off ver : Nat) : loadV Try.prog 50 H (.ptr r off ver) = ld H r off ver := ld_sc (by kernel_rfl) ..
theorem sc50 : scal Try.prog 50 = true := by kernel_rfl
@[simp] theorem ld52 (H : AH) (r off ver : Nat) : loadV Try.prog 52 H (.ptr r off ver) = ld H r off ver := ld_sc (by kernel_rfl) ..
theorem sc52 : scal Try.prog 52 = true := by kernel_rfl
theorem ar56 : arSz Try.prog 56 = some (2, 1) := by kernel_rfl
@[simp] theorem ixa56 (r off ver : Nat) (k : IntKind) (i : Int) : aIndexAddr Try.prog 56 (.ptr r off ver) (.int k i) = if 0 ≤ i ∧ i < (2 : Nat) then some (.ptr r (off + i.toNat * 1) ver) else none := ixa_ar ar56 ..
theorem ag56 : aggSz Try.prog 56 = some 2 := by kernel_rfl
@[simp] theorem ld56 (H : AH) (r off ver : Nat) : loadV Try.prog 56 H (.ptr r off ver) = (ldn H r ver 2 off).map .agg := load_agg ag56 ..
theorem zt56 : zeroT Try.prog 56 = some [.int .i64 0, .int .i64 0] := by kernel_rfl
@[simp] theorem ld57 (H : AH) (r off ver : Nat) : loadV Try.prog 57 H (.ptr r off ver) = ld H r off ver := ld_sc (by kernel_rfl) ..
theorem sc57 : scal Try.prog 57 = true := by kernel_rfl
theorem slz57 : slSz Try.prog 57 = some 1 := by kernel_rfl
@[simp] theorem len57 (r : Option Nat) (off len ver sz : Nat) (full : Bool) : aLen Try.prog 57 (.slice r off len ver sz full) = some (.int .i64 len) := len_sl slz57 ..
@[simp] theorem lenp57 (r off len ver sz : Nat) : aLen Try.prog 57 (.part r off len ver sz) = some (.int .i64 len) := len_part slz57 ..
@[simp] theorem ixa57 (r off len ver : Nat) (full : Bool) (k : IntKind) (i : Int) : aIndexAddr Try.prog 57 (.slice (some r) off len ver 1 full) (.int k i) = if 0 ≤ i ∧ i < len then some (.ptr r (off + i.toNat * 1) ver) else none := ixa_sl slz57 ..
@[simp] theorem ixap57 (r off len ver : Nat) (k : IntKind) (i : Int) : aIndexAddr Try.prog 57 (.part r off len ver 1) (.int k i) = if 0 ≤ i ∧ i < len then some (.ptr r (off + i.toNat * 1) ver) else none := ixa_part slz57 ..
theorem el57 : elT Try.prog 57 = true := by kernel_rfl
theorem ar59 : arSz Try.prog 59 = some (8, 1) := by kernel_rfl
@[simp] theorem ixa59 (r off ver : Nat) (k : IntKind) (i : Int) : aIndexAddr Try.prog 59 (.ptr r off ver) (.int k i) = if 0 ≤ i ∧ i < (8 : Nat) then some (.ptr r (off + i.toNat * 1) ver) else none := ixa_ar ar59 ..
theorem ag59 : aggSz Try.prog 59 = some 8 := by kernel_rfl
@[simp] theorem ld59 (H : AH) (r off ver : Nat) : loadV Try.prog 59 H (.ptr r off ver) = (ldn H r ver 8 off).map .agg := load_agg ag59 ..
theorem zt59 : zeroT Try.prog 59 = some [.int .i64 0, .int .i64 0, .int .i64 0, .int .i64 0, .int .i64 0, .int .i64 0, .int .i64 0, .int .i64 0] := by kernel_rfl
@[simp] theorem ld62 (H : AH) (r off ver : Nat) : loadV Try.prog 62 H (.ptr r off ver) = ld H r off ver := ld_sc (by kernel_rfl) ..
theorem sc62 : scal Try.prog 62 = true := by kernel_rfl
theorem slz62 : slSz Try.prog 62 = some 1 := by kernel_rfl
@[simp] theorem len62 (r : Option Nat) (off len ver sz : Nat) (full : Bool) : aLen Try.prog 62 (.slice r off len ver sz full) = some (.int .i64 len) := len_sl slz62 ..
@[simp] theorem lenp62 (r off len ver sz : Nat) : aLen Try.prog 62 (.part r off len ver sz) = some (.int .i64 len) := len_part slz62 ..
@[simp] theorem ixa62 (r off len ver : Nat) (full : Bool) (k : IntKind) (i : Int) : aIndexAddr Try.prog 62 (.slice (some r) off len ver 1 full) (.int k i) = if 0 ≤ i ∧ i < len then some (.ptr r (off + i.toNat * 1) ver) else none := ixa_sl slz62 ..
@[simp] theorem ixap62 (r off len ver : Nat) (k : IntKind) (i : Int) : aIndexAddr Try.prog 62 (.part r off len ver 1) (.int k i) = if 0 ≤ i ∧ i < len then some (.ptr r (off + i.toNat * 1) ver) else none := ixa_part slz62 ..
theorem el62 : elT Try.prog 62 = true := by kernel_rfl
@[simp] theorem ld81 (H : AH) (r off ver : Nat) : loadV Try.prog 81 H (.ptr r off ver) = ld H r off ver := ld_sc (by kernel_rfl) ..
theorem sc81 : scal Try.prog 81 = true := by kernel_rfl
theorem slz81 : slSz Try.prog 81 = some 1 := by kernel_rfl
@[simp] theorem len81 (r : Option Nat) (off len ver sz : Nat) (full : Bool) : aLen Try.prog 81 (.slice r off len ver sz full) = some (.int .i64 len) := len_sl slz81 ..
@[simp] theorem lenp81 (r off len ver sz : Nat) : aLen Try.prog 81 (.part r off len ver sz) = some (.int .i64 len) := len_part slz81 ..
@[simp] theorem ixa81 (r off len ver : Nat) (full : Bool) (k : IntKind) (i : Int) : aIndexAddr Try.prog 81 (.slice (some r) off len ver 1 full) (.int k i) = if 0 ≤ i ∧ i < len then some (.ptr r (off + i.toNat * 1) ver) else none := ixa_sl slz81 ..
@[simp] theorem ixap81 (r off len ver : Nat) (k : IntKind) (i : Int) : aIndexAddr Try.prog 81 (.part r off len ver 1) (.int k i) = if 0 ≤ i ∧ i < len then some (.ptr r (off + i.toNat * 1) ver) else none := ixa_part slz81 ..
theorem el81 : elT Try.prog 81 = true := by kernel_rfl
@[simp] theorem row81 (H : AH) (b : Int) : rowV Try.prog 81 1 [(0, .int .u8 b)] H = some (some (.slice (some H.length) 0 1 0 1 false), H ++ [.row [.int .u8 b] 0 1 false]) := row1 el81 rfl rfl
theorem zt81 : zeroT Try.prog 81 = some [.slice none 0 0 0 1 false] := by kernel_rfl
@[simp] theorem ld82 (H : AH) (r off ver : Nat) : loadV Try.prog 82 H (.ptr r off ver) = ld H r off ver := ld_sc (by kernel_rfl) ..
theorem sc82 : scal Try.prog 82 = true := by kernel_rfl
@[simp] theorem ld83 (H : AH) (r off ver : Nat) : loadV Try.prog 83 H (.ptr r off ver) = ld H r off ver := ld_sc (by kernel_rfl) ..
theorem sc83 : scal Try.prog 83 = true := by kernel_rfl
@[simp] theorem ld106 (H : AH) (r off ver : Nat) : loadV Try.prog 106 H (.ptr r off ver) = ld H r off ver := ld_sc (by kernel_rfl) ..
theorem sc106 : scal Try.prog 106 = true := by kernel_rfl
@[simp] theorem ld108 (H : AH) (r off ver : Nat) : loadV Try.prog 108 H (.ptr r off ver) = ld H r off ver := ld_sc (by kernel_rfl) ..
theorem sc108 : scal Try.prog 108 = true := by kernel_rfl
@[simp] theorem ld109 (H : AH) (r off ver : Nat) : loadV Try.prog 109 H (.ptr r off ver) = ld H r off ver := ld_sc (by kernel_rfl) ..
theorem sc109 : scal Try.prog 109 = true := by kernel_rfl
theorem zt109 : zeroT Try.prog 109 = some [.int .u64 0] := by kernel_rfl
@[simp] theorem ld113 (H : AH) (r off ver : Nat) : loadV Try.prog 113 H (.ptr r off ver) = ld H r off ver := ld_sc (by kernel_rfl) ..
theorem sc113 : scal Try.prog 113 = true := by kernel_rfl
@[simp] theorem cv3_83 (k : IntKind) (n : Int) : aConv Try.prog 3 83 (.int k n) = some (.int .u64 (IntKind.u64.wrap n)) := cv_int (by kernel_rfl) (by kernel_rfl) n
@[simp] theorem cv3_109 (k : IntKind) (n : Int) : aConv Try.prog 3 109 (.int k n) = some (.int .u64 (IntKind.u64.wrap n)) := cv_int (by kernel_rfl) (by kernel_rfl) n
@[simp] theorem cv5_3 (k : IntKind) (n : Int) : aConv Try.prog 5 3 (.int k n) = some (.int .i64 (IntKind.i64.wrap n)) := cv_int (by kernel_rfl) (by kernel_rfl) n
@[simp] theorem cv83_3 (k : IntKind) (n : Int) : aConv Try.prog 83 3 (.int k n) = some (.int .i64 (IntKind.i64.wrap n)) := cv_int (by kernel_rfl) (by kernel_rfl) n
@[simp] theorem cv83_106 (k : IntKind) (n : Int) : aConv Try.prog 83 106 (.int k n) = some (.int .u32 (IntKind.u32.wrap n)) := cv_int (by kernel_rfl) (by kernel_rfl) n
@[simp] theorem cv106_5 (k : IntKind) (n : Int) : aConv Try.prog 106 5 (.int k n) = some (.int .u8 (IntKind.u8.wrap n)) := cv_int (by kernel_rfl) (by kernel_rfl) n
@[simp] theorem cv108_5 (k : IntKind) (n : Int) : aConv Try.prog 108 5 (.int k n) = some (.int .u8 (IntKind.u8.wrap n)) := cv_int (by kernel_rfl) (by kernel_rfl) n
end Go.Proofs.Ytpfkioakjmpimaa

/- Lists that are mixed between two places. -/
namespace Go.Proofs.Ytpfkioakjmpimaa
open Go Go.Proofs.Ytpfkioakjmpimaa.AX

/-- What a temporary that is called calls. -/
def callW (P : Program) (v : AV) (xs : List AV) : Option (FuncId × List AV) := match v with
  | .func (.func f) first cap => if okFn P f then some (f, first ++ xs ++ cap) else none
  | _ => none
@[simp] theorem callW_f {P : Program} {f : FuncId} {first cap xs : List AV} : callW P (.func (.func f) first cap) xs = if okFn P f then some (f, first ++ xs ++ cap) else none := rfl
@[simp] theorem opcall_tmp {P : Program} {e : Env} {t : Tmp} {xs : Array Operand} {ts : Array TypeId} : opCall P (oval e) (.call ⟨.value (.tmp t), xs, ts⟩) = callW P (eget e t) (xs.toList.map (oval e)) := by
  simp only [opCall, oval, callW]
  cases eget e t <;> rfl

/-- All rows but one are as they were. -/
def KeepX (r : Nat) (H H' : AH) : Prop := H.length ≤ H'.length ∧ ∀ j : Nat, j ≠ r → j < H.length → H'[j]? = H[j]?
theorem KeepX.refl (r : Nat) (H : AH) : KeepX r H H := ⟨Nat.le_refl _, fun _ _ _ => rfl⟩
theorem KeepX.ext {r : Nat} {A B C : AH} (h : KeepX r A B) (k : Ext B C) : KeepX r A C := ⟨Nat.le_trans h.1 k.1, fun j h1 h2 => by rw [k.2 j (by have := h.1; omega), h.2 j h1 h2]⟩
theorem KeepX.set {r : Nat} {A B : AH} (h : KeepX r A B) (o : AObj) : KeepX r A (B.set r o) := ⟨by simpa using h.1, fun j h1 h2 => by rw [List.getElem?_set_ne (Ne.symm h1), h.2 j h1 h2]⟩
theorem KeepX.row {r : Nat} {H H' : AH} (h : KeepX r H H') {j : Nat} {o : AObj} (hj : j ≠ r) (ho : H[j]? = some o) : H'[j]? = some o := by
  rw [h.2 j hj (List.getElem?_eq_some_iff.1 ho).1]; exact ho
theorem KeepX.trans {r : Nat} {A B C : AH} (h : KeepX r A B) (k : KeepX r B C) : KeepX r A C := ⟨Nat.le_trans h.1 k.1, fun j h1 h2 => by rw [k.2 j h1 (by have := h.1; omega), h.2 j h1 h2]⟩

/-! ### Lists -/
def g (c : List Int) (i : Nat) : Int := c.getD i 0
theorem g_lt {c : List Int} {i : Nat} (h : i < c.length) : g c i = c[i] := by simp [g, List.getD_eq_getElem?_getD, h]
def sw (c : List Int) (i j : Nat) : List Int := (c.set i (g c j)).set j (g c i)
theorem sw_len (c : List Int) (i j : Nat) : (sw c i j).length = c.length := by simp [sw]
theorem g_sw {c : List Int} {i j : Nat} (hi : i < c.length) (hj : j < c.length) (k : Nat) : g (sw c i j) k = if k = j then g c i else if k = i then g c j else g c k := by
  unfold sw
  unfold g
  simp only [List.getD_eq_getElem?_getD, List.getElem?_set, List.length_set]
  by_cases h1 : k = j
  · subst h1; simp [hj]
  · by_cases h2 : k = i
    · subst h2; simp [h1, hi, Ne.symm h1]
    · simp [Ne.symm h1, Ne.symm h2, h1, h2]
theorem sw_j {c : List Int} {i j : Nat} (hi : i < c.length) (hj : j < c.length) : g (sw c i j) j = g c i := by rw [g_sw hi hj, if_pos rfl]
theorem sw_i {c : List Int} {i j : Nat} (hi : i < c.length) (hj : j < c.length) : g (sw c i j) i = g c j := by
  rw [g_sw hi hj]
  by_cases h : i = j
  · rw [if_pos h, h]
  · rw [if_neg h, if_pos rfl]
theorem sw_o {c : List Int} {i j k : Nat} (hi : i < c.length) (hj : j < c.length) (h1 : k ≠ i) (h2 : k ≠ j) : g (sw c i j) k = g c k := by rw [g_sw hi hj, if_neg h2, if_neg h1]
theorem sw_perm {c : List Int} {i j : Nat} (hi : i < c.length) (hj : j < c.length) : (sw c i j).Perm c := by
  have h := Array.swap_perm (xs := c.toArray) (i := i) (j := j) (by simpa using hi) (by simpa using hj)
  have h2 := h.toList
  simp only [Array.swap, Array.toList_set] at h2
  have e1 : g c j = c[j] := g_lt hj
  have e2 : g c i = c[i] := g_lt hi
  simpa [sw, e1, e2] using h2
/-- Mixed between a and b. -/
def Shuf (a b : Nat) (c m : List Int) : Prop := m.Perm c ∧ ∀ k, k < a ∨ b ≤ k → g m k = g c k
theorem Shuf.refl (a b : Nat) (c : List Int) : Shuf a b c c := ⟨.refl _, fun _ _ => rfl⟩
theorem Shuf.len {a b : Nat} {c m : List Int} (h : Shuf a b c m) : m.length = c.length := h.1.length_eq
theorem Shuf.trans {a b : Nat} {c d m : List Int} (h : Shuf a b c d) (k : Shuf a b d m) : Shuf a b c m := ⟨k.1.trans h.1, fun i hi => by rw [k.2 i hi, h.2 i hi]⟩
theorem Shuf.wide {a b a' b' : Nat} {c m : List Int} (h : Shuf a b c m) (h1 : a' ≤ a) (h2 : b ≤ b') : Shuf a' b' c m := ⟨h.1, fun i hi => h.2 i (by omega)⟩
theorem Shuf.swap {a b i j : Nat} {c : List Int} (hb : b ≤ c.length) (hi : a ≤ i ∧ i < b) (hj : a ≤ j ∧ j < b) : Shuf a b c (sw c i j) :=
  ⟨sw_perm (by omega) (by omega), fun k hk => by rw [g_sw (by omega) (by omega), if_neg (by omega), if_neg (by omega)]⟩
def mid (a b : Nat) (c : List Int) : List Int := (c.drop a).take (b - a)
theorem mid_mem {a b : Nat} {c : List Int} (hb : b ≤ c.length) {x : Int} : x ∈ mid a b c ↔ ∃ k, a ≤ k ∧ k < b ∧ g c k = x := by
  unfold mid
  constructor
  · intro h
    obtain ⟨i, hi, rfl⟩ := List.mem_iff_getElem.1 h
    simp at hi
    exact ⟨a + i, by omega, by omega, by rw [g_lt (by omega)]; simp⟩
  · rintro ⟨k, h1, h2, rfl⟩
    rw [g_lt (by omega)]
    exact List.mem_iff_getElem.2 ⟨k - a, by simp; omega, by simp; congr 1; omega⟩
theorem Shuf.mid {a b : Nat} {c m : List Int} (h : Shuf a b c m) (hab : a ≤ b) (hb : b ≤ c.length) : (mid a b m).Perm (mid a b c) := by
  have hl := h.len
  have split : ∀ l : List Int, l = l.take a ++ (Go.Proofs.Ytpfkioakjmpimaa.mid a b l ++ l.drop b) := by
    intro l
    unfold Go.Proofs.Ytpfkioakjmpimaa.mid
    have : l.drop b = (l.drop a).drop (b - a) := by rw [List.drop_drop]; congr 1; omega
    rw [this, List.take_append_drop, List.take_append_drop]
  have e1 : m.take a = c.take a := by
    apply List.ext_getElem (by simp [hl])
    intro i h1 h2
    simp at h1 h2
    have := h.2 i (by omega)
    rw [g_lt (by omega), g_lt (by omega)] at this
    simpa using this
  have e2 : m.drop b = c.drop b := by
    apply List.ext_getElem (by simp [hl])
    intro i h1 h2
    simp at h1 h2
    have := h.2 (b + i) (by omega)
    rw [g_lt (by omega), g_lt (by omega)] at this
    simpa using this
  have hp := h.1
  rw [split m, split c, e1, e2] at hp
  exact (List.perm_append_right_iff _).1 ((List.perm_append_left_iff _).1 hp)
/-- What holds of all between, holds of all when they are mixed. -/
theorem Shuf.all {a b : Nat} {c m : List Int} (h : Shuf a b c m) (hb : b ≤ c.length) {p : Int → Prop} (hp : ∀ k, a ≤ k → k < b → p (g c k)) : ∀ k, a ≤ k → k < b → p (g m k) := by
  intro k h1 h2
  have hm : g m k ∈ Go.Proofs.Ytpfkioakjmpimaa.mid a b m := (mid_mem (by have := h.len; omega)).2 ⟨k, h1, h2, rfl⟩
  obtain ⟨k', h3, h4, h5⟩ := (mid_mem hb).1 ((h.mid (by omega) hb).mem_iff.1 hm)
  rw [← h5]; exact hp k' h3 h4

/-! ### Rows of integers -/
def Rw (r ver : Nat) (H : AH) (c : List Int) : Prop := ∃ s, H[r]? = some (.row (c.map (.int .i64)) ver s false)
theorem Rw.ld {r ver i : Nat} {H : AH} {c : List Int} (h : Rw r ver H c) (hi : i < c.length) : AX.ld H r i ver = some (.int .i64 (g c i)) := by
  obtain ⟨s, h⟩ := h
  rw [ld_row h, g_lt hi]; simp [hi]
theorem Rw.ext {r ver : Nat} {H H' : AH} {c : List Int} (h : Rw r ver H c) (hE : Ext H H') : Rw r ver H' c := by
  obtain ⟨s, h⟩ := h
  exact ⟨s, hE.row h⟩
theorem Rw.swap {r ver i j : Nat} {H : AH} {c : List Int} (h : Rw r ver H c) (hi : i < c.length) (hj : j < c.length) :
    ∃ H1 H2, storeV Try.prog 3 H (.ptr r i ver) (.int .i64 (g c j)) = some (none, H1) ∧ storeV Try.prog 3 H1 (.ptr r j ver) (.int .i64 (g c i)) = some (none, H2) ∧ Rw r ver H2 (sw c i j) ∧ KeepX r H H2 := by
  obtain ⟨s, h⟩ := h
  have h1 := store_row (P := Try.prog) (u := 3) (p := i) sc3 (x := .int .i64 (g c j)) (y := .int .i64 c[i]) rfl h (by simp [hi])
  have e1 : (c.map (AV.int .i64)).set i (.int .i64 (g c j)) = (c.set i (g c j)).map (.int .i64) := by rw [List.map_set]
  rw [e1] at h1
  have hr1 := get_set (o' := .row ((c.set i (g c j)).map (.int .i64)) ver (min s i) false) h
  have h2 := store_row (P := Try.prog) (u := 3) (p := j) sc3 (x := .int .i64 (g c i)) (y := .int .i64 ((c.set i (g c j))[j]'(by simpa using hj))) rfl hr1 (by rw [List.getElem?_map, List.getElem?_eq_getElem (by simpa using hj)]; rfl)
  have e2 : ((c.set i (g c j)).map (AV.int .i64)).set j (.int .i64 (g c i)) = (sw c i j).map (.int .i64) := by rw [← List.map_set]; rfl
  rw [e2] at h2
  exact ⟨_, _, h1, h2, ⟨_, get_set hr1⟩, ((KeepX.refl r H).set _).set _⟩
end Go.Proofs.Ytpfkioakjmpimaa

/- A whole list is appended. -/
namespace Go.Proofs.Ytpfkioakjmpimaa
open Go Go.Proofs.Ytpfkioakjmpimaa.AX
theorem ldn_ints {H : AH} {r ver : Nat} : ∀ {m : List Int} {p : Nat}, (∀ i (h : i < m.length), ld H r (p + i) ver = some (.int .i64 m[i])) → ldn H r ver m.length p = some (m.map (.int .i64))
  | [], _, _ => rfl
  | x :: m, p, h => by
    have h0 := h 0 (by simp)
    simp only [Nat.add_zero, List.getElem_cons_zero] at h0
    have h1 : ldn H r ver m.length (p + 1) = some (m.map (.int .i64)) := ldn_ints fun i hi => by
      have := h (i + 1) (by simpa using hi)
      simp only [List.getElem_cons_succ] at this
      rw [← this]; congr 1; omega
    rw [List.length_cons, ldn_succ, h0, Option.bind_some, h1]
    rfl
theorem src_ls {P : Program} {H : AH} {u : TypeId} {x : AV} {m : List Int} (hu : elT P u = true) (hx : Ls H x m) : aSrc P H u 1 x = some (m.length, m.map (.int .i64)) := by
  obtain ⟨e', I', g1, -⟩ := elT_some hu
  obtain ⟨r, off, ver, sz, full, rfl, hld⟩ := hx
  unfold aSrc
  rw [g1]
  cases m with
  | nil => cases r <;> simp
  | cons y m =>
    obtain ⟨r', rfl, rfl, -⟩ := hld 0 (by simp)
    have h1 : ldn H r' ver (y :: m).length off = some ((y :: m).map (.int .i64)) := ldn_ints fun i hi => by
      obtain ⟨r2, h2, -, h3⟩ := hld i hi
      obtain rfl := Option.some.inj h2
      exact h3
    simp only [Nat.mul_one, h1]
    simp
theorem all_ints (m : List Int) : (m.map (AV.int .i64)).all AV.one = true := by
  rw [List.all_eq_true]
  intro x hx
  obtain ⟨i, -, rfl⟩ := List.mem_map.1 hx
  rfl
theorem row0 {P : Program} {H : AH} {t : TypeId} (ht : elT P t = true) : rowV P t 0 [] H = some (some (.slice (some H.length) 0 0 0 1 false), H ++ [.row [] 0 0 false]) := by
  obtain ⟨e, I, h1, h2, h3, h4, hzz⟩ := elT_some ht
  simp [rowV, h1, h2, h3, aFill]
@[simp] theorem row22_0 (H : AH) : rowV Try.prog 22 0 [] H = some (some (.slice (some H.length) 0 0 0 1 false), H ++ [.row [] 0 0 false]) := row0 el22
/-- append(l, x...) -/
theorem ownF_appendL {P : Program} {H H0 : AH} (hE : Ext H0 H) {t u : TypeId} (ht : elT P t = true) (hu : elT P u = true) {v x : AV} {l m : List Int} (ho : OwnF H0.length H v (l.map (.int .i64))) (hx : Ls H x m) (hlen : l.length + m.length ≤ 16777216) :
    ∃ v' H', aAppend P H t u v x = some (v', H') ∧ OwnF H0.length H' v' ((l ++ m).map (.int .i64)) ∧ Ext H0 H' := by
  obtain ⟨e, I, h1, h2, h3, h4, -⟩ := elT_some ht
  have hsrc := src_ls hu hx
  have hall := all_ints m
  have hle := hE.1
  unfold aAppend
  cases m with
  | nil =>
    simp only [List.length_nil, List.map_nil] at hsrc
    refine ⟨v, H, ?_, by simpa using ho, hE⟩
    rcases ho with ⟨-, rfl⟩ | ⟨r, ver, stale, hr0, rfl, hr⟩ <;> simp [h1, h2, h3, h4, hsrc]
  | cons y m =>
    have hml : ((y :: m).map (AV.int .i64)).length = (y :: m).length := by simp
    rw [List.map_append]
    generalize (y :: m).map (AV.int .i64) = vs at *
    have hne : (y :: m).length ≠ 0 := by simp
    generalize (y :: m).length = k at *
    rcases ho with ⟨h0, rfl⟩ | ⟨r, ver, stale, hr0, rfl, hr⟩
    · have : l = [] := by simpa using h0
      subst this
      have hk : k ≤ 16777216 := by simpa using hlen
      refine ⟨.slice (some H.length) 0 k 0 1 false, H ++ [.row vs 0 0 false], ?_, .inr ⟨H.length, 0, 0, by omega, by simp [hml], by simp⟩, hE.trans (.push _ _)⟩
      simp only [h1, h2, h3, h4, hsrc]
      simp [hml, hne, hk]
      exact fun x hx => List.all_eq_true.1 hall x hx
    · have hlt : r < H.length := (List.getElem?_eq_some_iff.1 hr).1
      have hll : (l.map (AV.int .i64)).length = l.length := by simp
      generalize hL : l.map (AV.int .i64) = L at *
      refine ⟨.slice (some r) 0 (l.length + k) (ver + 1) 1 false, H.set r (AObj.row (L ++ vs) (ver + 1) (min stale l.length) false), ?_, .inr ⟨r, ver + 1, min stale l.length, hr0, by simp [hll, hml], get_set hr⟩, hE.set _ hr0⟩
      have hin : inPlace H r 0 l.length k ver 1 vs = none := by simp [inPlace, hr, hll]; omega
      have hgr : grow H r 0 l.length ver vs = some (H.set r (AObj.row (L ++ vs) (ver + 1) (min stale l.length) false), ver + 1) := by
        simp [grow, hr, ← hll]
      simp only [h1, h2, h3, h4, hsrc, hll]
      simp only [Nat.zero_lt_one, true_and, if_true, Option.bind_some, hall, hml, Nat.mul_one, beq_self_eq_true, Bool.and_true, hne, if_false, hlen, Bool.false_eq_true, hin, hgr, Option.map_some]
theorem ownF_new (H : AH) : OwnF H.length (H ++ [.row [] 0 0 false]) (.slice (some H.length) 0 0 0 1 false) (([] : List Int).map (.int .i64)) := .inr ⟨H.length, 0, 0, Nat.le_refl _, rfl, by simp⟩
theorem KeepX.new {r : Nat} {H0 A B : AH} (h : KeepX r A B) (hE : Ext H0 A) (hr : H0.length ≤ r) : Ext H0 B := ⟨Nat.le_trans hE.1 h.1, fun j hj => by rw [h.2 j (by omega) (by have := hE.1; omega), hE.2 j hj]⟩
theorem Rw.put {r ver i : Nat} {H : AH} {c : List Int} (h : Rw r ver H c) (hi : i < c.length) (x : Int) :
    ∃ H1, storeV Try.prog 3 H (.ptr r i ver) (.int .i64 x) = some (none, H1) ∧ Rw r ver H1 (c.set i x) ∧ KeepX r H H1 := by
  obtain ⟨s, h⟩ := h
  have h1 := store_row (P := Try.prog) (u := 3) (p := i) sc3 (x := .int .i64 x) (y := .int .i64 c[i]) rfl h (by simp [hi])
  have e1 : (c.map (AV.int .i64)).set i (.int .i64 x) = (c.set i x).map (.int .i64) := by rw [List.map_set]
  rw [e1] at h1
  exact ⟨_, h1, ⟨_, get_set h⟩, (KeepX.refl r H).set _⟩
theorem g_set {c : List Int} {i : Nat} (hi : i < c.length) (x : Int) (k : Nat) : g (c.set i x) k = if k = i then x else g c k := by
  unfold g
  simp only [List.getD_eq_getElem?_getD, List.getElem?_set]
  by_cases h : i = k
  · subst h; simp [hi]
  · rw [if_neg h, if_neg (fun e => h e.symm)]
theorem Rw.ownF {N r ver : Nat} {H : AH} {c : List Int} (h : Rw r ver H c) (hr : N ≤ r) : OwnF N H (.slice (some r) 0 c.length ver 1 false) (c.map (.int .i64)) := by
  obtain ⟨s, h⟩ := h
  exact .inr ⟨r, ver, s, hr, by simp, h⟩
theorem Rw.ls {r ver : Nat} {H : AH} {c : List Int} (h : Rw r ver H c) : Ls H (.slice (some r) 0 c.length ver 1 false) c := by
  obtain ⟨s, h⟩ := h
  exact Ls.row h false
/-- The row of a slice. -/
def rowOf : AV → Option Nat
  | .slice r _ _ _ _ _ => r
  | _ => none
theorem ls_keep {H H' : AH} {w : AV} {l : List Int} (h : Ls H w l) (hk : ∀ j, j < H.length → rowOf w = some j → H'[j]? = H[j]?) : Ls H' w l := by
  obtain ⟨r, off, ver, sz, full, rfl, hl⟩ := h
  refine ⟨r, off, ver, sz, full, rfl, fun i hi => ?_⟩
  obtain ⟨r', h1, h2, h3⟩ := hl i hi
  refine ⟨r', h1, h2, ?_⟩
  have := hk r' (ld_lt h3) h1
  unfold ld at h3 ⊢
  rw [this]; exact h3
theorem ownF_ext {N : Nat} {H H1 : AH} {v : AV} {l : List AV} (h : OwnF N H v l) (hE : Ext H H1) : OwnF N H1 v l := by
  rcases h with h | ⟨r, ver, stale, h1, h2, h3⟩
  · exact .inl h
  · exact .inr ⟨r, ver, stale, h1, h2, hE.row h3⟩
theorem ownF_rowlt {N : Nat} {H : AH} {v : AV} {l : List AV} (h : OwnF N H v l) {j : Nat} (hj : rowOf v = some j) : N ≤ j ∧ j < H.length := by
  rcases h with ⟨-, rfl⟩ | ⟨r, ver, stale, h1, rfl, h3⟩
  · cases hj
  · cases hj; exact ⟨h1, (List.getElem?_eq_some_iff.1 h3).1⟩
end Go.Proofs.Ytpfkioakjmpimaa

/- Parts of rows, lists by what is read of them; what is turned round. -/
namespace Go.Proofs.Ytpfkioakjmpimaa
open Go Go.Proofs.Ytpfkioakjmpimaa.AX

/-- Seats: a part of a row, with or without room behind it. -/
def SV (b : Bool) (r off len ver : Nat) : AV := bif b then .clip r off len ver 1 else .slice (some r) off len ver 1 false
theorem und22 : Try.prog.underlying 22 = some (.slice 3) := by kernel_rfl
theorem inf3 : ∃ i, Try.prog.info? 3 = some i ∧ i.size = 1 := by
  have h := slz22
  unfold slSz at h
  rw [und22] at h
  simp only [Option.map_eq_some_iff] at h
  exact h
@[simp] theorem lenS (b : Bool) (r off len ver : Nat) : aLen Try.prog 22 (SV b r off len ver) = some (.int .i64 len) := by
  cases b
  · exact len22 ..
  · unfold aLen SV; rw [und22]; rfl
@[simp] theorem ixaS (b : Bool) (r off len ver : Nat) (k : IntKind) (i : Int) : aIndexAddr Try.prog 22 (SV b r off len ver) (.int k i) = if 0 ≤ i ∧ i < len then some (.ptr r (off + i.toNat) ver) else none := by
  cases b
  · have := ixa22 r off len ver false k i
    rw [Nat.mul_one] at this
    exact this
  · obtain ⟨ie, h1, h2⟩ := inf3
    unfold aIndexAddr SV
    rw [und22]
    simp [h1, h2]
set_option maxRecDepth 100000 in
/-- slices.Reverse turns a part of a row round. -/
theorem Reverse_ac (b : Bool) (r off n ver : Nat) (c : List Int) (H : AH) (Q : AV → AH → Prop) (hr : Rw r ver H c) (hl : c.length ≤ 1000000) (hc : off + n ≤ c.length)
    (h : ∀ (H' : AH) (d : List Int), d.length = c.length → (∀ x, x < c.length → g d x = if off ≤ x ∧ x < off + n then g c (2 * off + n - 1 - x) else g c x) → Rw r ver H' d → KeepX r H H' → Q (.tuple []) H') : AC Try.prog 56 [SV b r off n ver] H Q := by
  refine L_body 28 Try.func56 rfl rfl ?_
  have hw : IntKind.i64.wrap ((n : Int) - 1) = (n : Int) - 1 := wrap_i64 (by omega)
  refine L_reg [0, 2, 3] (fun K hK => ?_)
  simp [hw]
  apply hK; clear hK K
  refine L_block (L_loopV [2, 3] (fun k vs H' => ∃ (i : Nat) (d : List Int), k = n - i ∧ 2 * i ≤ n + 1 ∧ i ≤ n ∧ d.length = c.length ∧ (∀ x, x < c.length → g d x = if off ≤ x ∧ x < off + n ∧ (x < off + i ∨ off + n ≤ x + i) then g c (2 * off + n - 1 - x) else g c x) ∧ vs = [.int .i64 i, .int .i64 ((n : Int) - 1 - i)] ∧ Rw r ver H' d ∧ KeepX r H H') _ [.int .i64 0, .int .i64 ((n : Int) - 1)] rfl ⟨0, c, rfl, by omega, by omega, rfl, fun x hx => by rw [if_neg (by omega)], by simp, hr, .refl r H⟩ ?_)
  rintro k _ H1 ⟨i, d, rfl, hi, hin, hdl, hd, rfl, hrow, hK⟩
  refine L_reg [0, 2, 3, 9] (fun K hK => ?_)
  simp
  apply hK; clear hK K
  refine L_dec ((i : Int) < (n : Int) - 1 - i) (by simp) (fun hlt => ?_) (fun hge => L_exit ?_)
  · obtain ⟨j, hj⟩ : ∃ j : Nat, n = i + 1 + j := ⟨n - i - 1, by omega⟩
    have hji : (n : Int) - 1 - i = (j : Int) := by omega
    have hx := hrow.ld (i := off + i) (by omega)
    have hy := hrow.ld (i := off + j) (by omega)
    obtain ⟨H2, H3, e1, e2, e3, e4⟩ := hrow.swap (i := off + i) (j := off + j) (by omega) (by omega)
    have g1 : i < n := by omega
    have g2 : j < n := by omega
    refine L_block ?_
    rw [hji]
    refine L_regT mixed [0, 2, 3] (by kernel_rfl) (fun K hK => ?_)
    simp [g1, g2, hx, hy, e1, e2]
    apply hK; clear hK K
    refine L_reg [0, 2, 3] (fun K hK => ?_)
    simp [wrap_i64 (a := (i : Int) + 1) (by omega), wrap_i64 (a := (j : Int) - 1) (by omega)]
    apply hK; clear hK K
    refine ⟨n - (i + 1), [.int .i64 (i + 1 : Nat), .int .i64 ((n : Int) - 1 - (i + 1 : Nat))], by omega, by simp; omega, i + 1, _, rfl, by omega, by omega, by rw [sw_len]; exact hdl, fun x hx => ?_, rfl, e3, hK.trans e4⟩
    rw [g_sw (by omega) (by omega)]
    have d1 := hd (off + i) (by omega)
    have d2 := hd (off + j) (by omega)
    have d3 := hd x hx
    rw [if_neg (by omega)] at d1 d2
    by_cases x1 : x = off + j
    · subst x1
      rw [if_pos rfl, d1, if_pos (by omega)]
      congr 1; omega
    · rw [if_neg x1]
      by_cases x2 : x = off + i
      · subst x2
        rw [if_pos rfl, d2, if_pos (by omega)]
        congr 1; omega
      · rw [if_neg x2, d3]
        by_cases x3 : off ≤ x ∧ x < off + n ∧ (x < off + i ∨ off + n ≤ x + i)
        · rw [if_pos x3, if_pos (by omega)]
        · rw [if_neg x3, if_neg (by omega)]
  · refine ⟨.inl rfl, _, rfl, h _ d hdl (fun x hx => ?_) hrow hK⟩
    rw [hd x hx]
    by_cases x1 : off ≤ x ∧ x < off + n ∧ (x < off + i ∨ off + n ≤ x + i)
    · rw [if_pos x1, if_pos (by omega)]
    · rw [if_neg x1]
      by_cases x2 : off ≤ x ∧ x < off + n
      · rw [if_pos x2]; congr 1; omega
      · rw [if_neg x2]

theorem g_app (a b : List Int) (i : Nat) : g (a ++ b) i = if i < a.length then g a i else g b (i - a.length) := by
  unfold g
  simp only [List.getD_eq_getElem?_getD]
  split
  · rename_i h; rw [List.getElem?_append_left h]
  · rename_i h; rw [List.getElem?_append_right (by omega)]
theorem g_drop (l : List Int) (a i : Nat) : g (l.drop a) i = g l (a + i) := by simp [g, List.getD_eq_getElem?_getD]
theorem g_take {l : List Int} {a i : Nat} (h : i < a) : g (l.take a) i = g l i := by simp [g, List.getD_eq_getElem?_getD, List.getElem?_take_of_lt h]
theorem g_ext {a b : List Int} (h1 : a.length = b.length) (h2 : ∀ i, i < a.length → g a i = g b i) : a = b := by
  apply List.ext_getElem h1
  intro i ha hb
  have := h2 i ha
  rwa [g_lt ha, g_lt hb] at this
theorem ls_len {H : AH} {v : AV} {l : List Int} (h : Ls H v l) : aLen Try.prog 22 v = some (.int .i64 l.length) := by
  obtain ⟨r, off, ver, sz, full, rfl, -⟩ := h
  exact len22 ..
theorem ls_ix {H : AH} {v : AV} {l : List Int} (h : Ls H v l) {i : Nat} (hi : i < l.length) : ∃ r p ver, (∀ k, aIndexAddr Try.prog 22 v (.int k (i : Int)) = some (.ptr r p ver)) ∧ ld H r p ver = some (.int .i64 (g l i)) := by
  obtain ⟨r, off, ver, sz, full, rfl, hld⟩ := h
  obtain ⟨r', rfl, rfl, hx⟩ := hld i hi
  rw [← g_lt hi] at hx
  exact ⟨r', off + i, ver, fun k => by simp [hi], hx⟩
theorem ls_hi {H : AH} {v : AV} {l : List Int} (h : Ls H v l) (h0 : 0 < l.length) {m : Nat} (hm : m ≤ l.length) : ∃ u, aSlice Try.prog 22 v none (some (.int .i64 (m : Int))) none = some u ∧ Ls H u (l.take m) := by
  obtain ⟨r, off, ver, sz, full, rfl, hsz, hsub⟩ := h.sub
  obtain rfl := hsz (by intro e; rw [e] at h0; simp at h0)
  have h2 := hsub 0 m (full && m == l.length) (by omega) hm
  rw [Nat.sub_zero, List.drop_zero] at h2
  exact ⟨_, slice_hi slz22 r off _ ver full hm, h2⟩
section
variable {P : Program} {nt : Nat} {e : Env} {H : AH}
theorem L_loopK (ks : List Nat) {c : Code} {cs : List Code} {Q : Ex → Env → AH → Prop} (ts : List Nat) (I : Nat → List AV → AH → Prop) (n0 : Nat) (vs0 : List AV) (hk : ekeep ks e = e) (he : esets e ts vs0 = e) (h0 : I n0 vs0 H)
    (round : ∀ n vs H, I n vs H → AWL P nt (flat c) (esets e ts vs) H fun x e' H' => match x with | .normal => ∃ n' vs', n' < n ∧ ekeep ks e' = esets e ts vs' ∧ I n' vs' H' | x => More P nt cs Q x e' H') : AWL P nt (.loop c :: cs) e H Q := by
  refine AWL_cons (AW_loop (fun n e1 H1 => ∃ vs, ekeep ks e1 = esets e ts vs ∧ I n vs H1) n0 ⟨vs0, by rw [hk, he], h0⟩ ?_)
  rintro n e1 H1 ⟨vs, he1, hI⟩
  refine AW.keepE ks ?_
  rw [he1]
  refine AW_of_flat (AWL_mono (fun x e' H' hx => ?_) (round n vs H1 hI))
  cases x with
  | normal => obtain ⟨n', vs', h1, h2, h3⟩ := hx; exact ⟨n', h1, vs', h2, h3⟩
  | exit i => exact hx
  | goto i => exact hx
  | ret => exact hx
end
end Go.Proofs.Ytpfkioakjmpimaa

/- Sorting a part of a row: what is asked of lists. -/
namespace Go.Proofs.Ytpfkioakjmpimaa.Ord
open Go Go.Proofs.Ytpfkioakjmpimaa.AX Go.Proofs.Ytpfkioakjmpimaa
variable {sb : Bool} {tl : List AV}
theorem set_ne {H : AH} {i j : Nat} {o : AObj} (h : i ≠ j) : (H.set i o)[j]? = H[j]? := List.getElem?_set_ne h
/-- A row that begins with these numbers. -/
def Rw (tl : List AV) (r ver : Nat) (H : AH) (c : List Int) : Prop := ∃ s, H[r]? = some (.row (c.map (.int .i64) ++ tl) ver s false)
theorem Rw.ld {r ver i : Nat} {H : AH} {c : List Int} (h : Rw tl r ver H c) (hi : i < c.length) : AX.ld H r i ver = some (.int .i64 (g c i)) := by
  obtain ⟨s, h⟩ := h
  rw [ld_row h, g_lt hi, List.getElem?_append_left (by simpa using hi)]; simp [hi]
theorem Rw.ext {r ver : Nat} {H H' : AH} {c : List Int} (h : Rw tl r ver H c) (hE : Ext H H') : Rw tl r ver H' c := by
  obtain ⟨s, h⟩ := h
  exact ⟨s, hE.row h⟩
theorem Rw.swap {r ver i j : Nat} {H : AH} {c : List Int} (h : Rw tl r ver H c) (hi : i < c.length) (hj : j < c.length) :
    ∃ H1 H2, storeV Try.prog 3 H (.ptr r i ver) (.int .i64 (g c j)) = some (none, H1) ∧ storeV Try.prog 3 H1 (.ptr r j ver) (.int .i64 (g c i)) = some (none, H2) ∧ Rw tl r ver H2 (sw c i j) ∧ KeepX r H H2 := by
  obtain ⟨s, h⟩ := h
  have h1 := store_row (P := Try.prog) (u := 3) (p := i) sc3 (x := .int .i64 (g c j)) (y := .int .i64 c[i]) rfl h (by rw [List.getElem?_append_left (by simpa using hi)]; simp [hi])
  have e1 : (c.map (AV.int .i64) ++ tl).set i (.int .i64 (g c j)) = (c.set i (g c j)).map (.int .i64) ++ tl := by rw [List.set_append_left _ _ (by simpa using hi), List.map_set]
  rw [e1] at h1
  have hr1 := get_set (o' := .row ((c.set i (g c j)).map (.int .i64) ++ tl) ver (min s i) false) h
  have h2 := store_row (P := Try.prog) (u := 3) (p := j) sc3 (x := .int .i64 (g c i)) (y := .int .i64 ((c.set i (g c j))[j]'(by simpa using hj))) rfl hr1 (by rw [List.getElem?_append_left (by simpa using hj), List.getElem?_map, List.getElem?_eq_getElem (by simpa using hj)]; rfl)
  have e2 : ((c.set i (g c j)).map (AV.int .i64) ++ tl).set j (.int .i64 (g c i)) = (sw c i j).map (.int .i64) ++ tl := by rw [List.set_append_left _ _ (by simpa using hj), ← List.map_set]; rfl
  rw [e2] at h2
  exact ⟨_, _, h1, h2, ⟨_, get_set hr1⟩, ((KeepX.refl r H).set _).set _⟩
/-- What a comparison says. -/
def cmpS (a b : Int) : Int := if a < b then -1 else if b < a then 1 else 0
theorem cmpS_neg {a b : Int} : cmpS a b < 0 ↔ a < b := by unfold cmpS; split <;> (try split) <;> omega
/-- Sorted between a and b. -/
def Srt (κ : Int → Int) (a b : Nat) (c : List Int) : Prop := ∀ p q, a ≤ p → p < q → q < b → κ (g c p) ≤ κ (g c q)
def All (D : Int → Prop) (c : List Int) : Prop := ∀ i, i < c.length → D (g c i)
theorem All.perm {D : Int → Prop} {c m : List Int} (h : All D c) (hp : m.Perm c) : All D m := by
  intro i hi
  have : m[i] ∈ c := hp.mem_iff.1 (by simp)
  obtain ⟨j, hj, e⟩ := List.mem_iff_getElem.1 this
  rw [g_lt hi, ← e, ← g_lt hj]; exact h j hj
/-- What stands while a pivot is chosen: the row, and how often two were out of order. -/
structure Piv (tl : List AV) (r ver sp : Nat) (B : AH) (c : List Int) (k : Nat) (H : AH) : Prop where
  keep : KeepX r B H
  row : Rw tl r ver H c
  lt : B.length ≤ sp
  ne : r ≠ sp
  cnt : ∃ s st : Nat, s ≤ k ∧ H[sp]? = some (.row [.int .i64 s] 0 st false)
theorem Piv.mono {r ver sp k k' : Nat} {B H : AH} {c : List Int} (h : Piv tl r ver sp B c k H) (hk : k ≤ k') : Piv tl r ver sp B c k' H :=
  ⟨h.keep, h.row, h.lt, h.ne, let ⟨s, st, h1, h2⟩ := h.cnt; ⟨s, st, by omega, h2⟩⟩
theorem part_fin {D κ : Int → Int} {a b j pv : Nat} {c d : List Int} {LOW : Int → Prop} (hLd : ∀ x, LOW x ↔ κ x < κ (g c pv)) (hb : b ≤ d.length) (haj : a ≤ j) (hjb : j < b) (hS : Shuf a b c d) (hpiv : g d a = g c pv) (hLo : ∀ k, a < k → k < j + 1 → LOW (g d k)) (hHi : ∀ k, j < k → k < b → ¬ LOW (g d k)) :
    Shuf a b c (sw d j a) ∧ (∀ k, a ≤ k → k < j → κ (g (sw d j a) k) ≤ κ (g (sw d j a) j)) ∧ (∀ k, j < k → k < b → κ (g (sw d j a) j) ≤ κ (g (sw d j a) k)) := by
  have w0 := sw_i (c := d) (i := j) (j := a) (by omega) (by omega)
  have w1 := sw_j (c := d) (i := j) (j := a) (by omega) (by omega)
  have w2 := fun (k : Nat) (k1 : k ≠ j) (k2 : k ≠ a) => sw_o (c := d) (i := j) (j := a) (by omega) (by omega) k1 k2
  refine ⟨hS.trans (.swap hb (by omega) (by omega)), fun k k1 k2 => ?_, fun k k1 k2 => ?_⟩
  · rw [w0, hpiv]
    by_cases k3 : k = a
    · rw [k3, w1]; exact Int.le_of_lt ((hLd _).1 (hLo j (by omega) (by omega)))
    · rw [w2 k (by omega) k3]; exact Int.le_of_lt ((hLd _).1 (hLo k (by omega) (by omega)))
  · rw [w0, hpiv, w2 k (by omega) (by omega)]
    exact Int.not_lt.1 fun h => hHi k k1 k2 ((hLd _).2 h)
/-- What lies below place i is not greater. -/
def Hp (κ : Int → Int) (f hi : Nat) (d : List Int) (i : Nat) : Prop := ∀ c, c = 2 * i + 1 ∨ c = 2 * i + 2 → c < hi → κ (g d (f + c)) ≤ κ (g d (f + i))
theorem heap_max {κ : Int → Int} {f hi : Nat} {d : List Int} (h : ∀ i, Hp κ f hi d i) : ∀ p, p < hi → κ (g d (f + p)) ≤ κ (g d (f + 0)) := by
  intro p
  induction p using Nat.strongRecOn with
  | _ p ih =>
    intro hp
    by_cases h0 : p = 0
    · subst h0; exact Int.le_refl _
    · have h1 := h ((p - 1) / 2) p (by omega) hp
      have h2 := ih ((p - 1) / 2) (by omega) (by omega)
      omega
def lenN (n : Nat) : Nat := if n < 1 then 0 else if n < 2 then 1 else if n < 4 then 2 else if n < 8 then 3 else if n < 16 then 4 else if n < 32 then 5 else if n < 64 then 6 else 7
theorem len_all : (List.range 128).all (fun s => match callN (runZ cx 300) 107 [.int .u64 (.ofNat s)] [] with | some (.int .i64 m, []) => ieq m (.ofNat (lenN s)) | _ => false) = true := by kernel_rfl
theorem Len_ac (n : Nat) (H : AH) (Q : AV → AH → Prop) (hn : n < 128) (h : Q (.int .i64 (lenN n)) H) : AC Try.prog 107 [.int .u64 n] H Q := by
  have := List.all_eq_true.1 len_all n (List.mem_range.2 hn)
  split at this
  · rename_i m hr
    rw [ieq_eq, beq_iff_eq] at this
    subst this
    exact AC_kernZ cx_ok 300 hr (.cons (.int _ _) .nil) (.int _ _) h
  · cases this
theorem pow_len {n : Nat} (h1 : 1 ≤ n) (h2 : n < 128) : 2 ^ lenN n ≤ 2 * n ∧ 1 ≤ 2 ^ lenN n ∧ lenN n ≤ 7 := by
  unfold lenN
  repeat' split
  all_goals omega
@[simp] theorem cvA (n : Nat) (hn : n ≤ 1000000) : aConv Try.prog 3 83 (.int .i64 n) = some (.int .u64 n) := by
  rw [cv_int (by kernel_rfl) (by kernel_rfl) n, wrap_u64 (by omega)]
theorem cvB (n : Nat) (hn : n ≤ 1000000) : aConv Try.prog 83 3 (.int .u64 n) = some (.int .i64 n) := by
  rw [cv_int (by kernel_rfl) (by kernel_rfl) n, wrap_i64 (by omega)]
theorem cvC (n : Nat) (hn : n ≤ 1000000) : aConv Try.prog 3 109 (.int .i64 n) = some (.int .u64 n) := by
  rw [cv_int (by kernel_rfl) (by kernel_rfl) n, wrap_u64 (by omega)]
theorem nextPow_ac (n : Nat) (H : AH) (Q : AV → AH → Prop) (h1 : 1 ≤ n) (hn : n < 128) (h : Q (.int .u64 (2 ^ lenN n : Nat)) H) : AC Try.prog 124 [.int .i64 n] H Q := by
  refine L_body 7 Try.func124 rfl rfl ?_
  refine L_reg [0] (fun K hK => ?_)
  simp
  apply hK; clear hK K
  have := pow_len h1 hn
  refine L_reg [2] (fun K hK => ?_)
  simp [okFn_low, cvA n (by omega)]
  refine Len_ac n H _ hn ?_
  simp [n_shl64' (lenN n) (by omega)]
  apply hK; clear hK K
  exact L_ret ⟨.inr rfl, _, rfl, by simpa using h⟩
theorem st86 {H : AH} {p s : Nat} {x : Int} (h : H[p]? = some (.row [.int .u64 x] 0 s false)) (z : Int) : storeV Try.prog 109 H (.ptr p 0 0) (.int .u64 z) = some (none, H.set p (.row [.int .u64 z] 0 0 false)) := by
  have := store_row (P := Try.prog) (u := 109) (p := 0) sc109 (x := .int .u64 z) (y := .int .u64 x) rfl h rfl
  simpa using this
theorem next_ac (p s : Nat) (x : Int) (H : AH) (Q : AV → AH → Prop) (hr : H[p]? = some (.row [.int .u64 x] 0 s false)) (h : ∀ (y : Int) (H' : AH), H'[p]? = some (.row [.int .u64 y] 0 0 false) → KeepX p H H' → Q (.int .u64 y) H') : AC Try.prog 125 [.ptr p 0 0] H Q := by
  refine L_body 33 Try.func125 rfl rfl ?_
  have e1 : ld H p 0 0 = some (.int .u64 x) := by rw [ld_row hr]; rfl
  refine L_reg [0] (fun K hK => ?_)
  simp
  apply hK; clear hK K
  refine L_regT mixed [0] (by kernel_rfl) (fun K hK => ?_)
  simp [aNil, e1, st86 hr]
  apply hK; clear hK K
  generalize IntKind.u64.wrap _ = y1
  have r1 := get_set (o' := AObj.row [.int .u64 y1] 0 0 false) hr
  have k1 := (KeepX.refl p H).set (AObj.row [.int .u64 y1] 0 0 false)
  generalize H.set p (AObj.row [.int .u64 y1] 0 0 false) = H1 at r1 k1 ⊢
  have e2 : ld H1 p 0 0 = some (.int .u64 y1) := by rw [ld_row r1]; rfl
  refine L_regT mixed [0] (by kernel_rfl) (fun K hK => ?_)
  simp [aNil, e2, st86 r1]
  apply hK; clear hK K
  generalize IntKind.u64.wrap _ = y2
  have r2 := get_set (o' := AObj.row [.int .u64 y2] 0 0 false) r1
  have k2 := k1.set (AObj.row [.int .u64 y2] 0 0 false)
  generalize H1.set p (AObj.row [.int .u64 y2] 0 0 false) = H2 at r2 k2 ⊢
  have e3 : ld H2 p 0 0 = some (.int .u64 y2) := by rw [ld_row r2]; rfl
  refine L_regT mixed [0] (by kernel_rfl) (fun K hK => ?_)
  simp [aNil, e3, st86 r2]
  apply hK; clear hK K
  generalize IntKind.u64.wrap _ = y3
  have r3 := get_set (o' := AObj.row [.int .u64 y3] 0 0 false) r2
  have k3 := k2.set (AObj.row [.int .u64 y3] 0 0 false)
  generalize H2.set p (AObj.row [.int .u64 y3] 0 0 false) = H3 at r3 k3 ⊢
  have e4 : ld H3 p 0 0 = some (.int .u64 y3) := by rw [ld_row r3]; rfl
  refine L_reg [2] (fun K hK => ?_)
  simp [aNil, e4]
  apply hK; clear hK K
  exact L_ret ⟨.inr rfl, _, rfl, h _ _ r3 k3⟩
theorem and_low {P : Program} {t : TypeId} {l : Bool} (y : Int) (m : Nat) (_hm : m ≤ 1000000) : ∃ z : Nat, z ≤ m ∧ binV P .and t l (.int .u64 y) (.int .u64 (m : Int)) = some (.int .u64 (z : Nat)) := by
  refine ⟨(BitVec.ofInt 64 y &&& BitVec.ofInt 64 (m : Int)).toNat, ?_, ?_⟩
  · rw [BitVec.toNat_and]
    refine Nat.le_trans Nat.and_le_right ?_
    rw [ofInt_nat, BitVec.toNat_ofNat]
    exact Nat.mod_le _ _
  · rw [b_and]
    congr 2
    exact wrapN64 (BitVec.isLt _)
theorem Srt.more {κ : Int → Int} {a i : Nat} {d : List Int} (h : Srt κ a (i + 1) d) (hi : a ≤ i) (h1 : κ (g d i) ≤ κ (g d (i + 1))) : Srt κ a (i + 2) d := by
  intro p q h2 h3 h4
  by_cases e : q = i + 1
  · subst e
    by_cases e2 : p = i
    · subst e2; exact h1
    · exact Int.le_trans (h p i h2 (by omega) (by omega)) h1
  · exact h p q h2 h3 (by omega)
/-- Sorted, but for what lies between a' and b'. -/
def OrdEx (κ : Int → Int) (a b a' b' : Nat) (d : List Int) : Prop := ∀ p q, a ≤ p → p < q → q < b → ¬ (a' ≤ p ∧ q < b') → κ (g d p) ≤ κ (g d q)
def Pre (κ : Int → Int) (a b : Nat) (d : List Int) : Prop := 0 < a → ∀ k, a ≤ k → k < b → κ (g d (a - 1)) ≤ κ (g d k)
theorem OrdEx.mix {κ : Int → Int} {a b a' b' : Nat} {d m : List Int} (h : OrdEx κ a b a' b' d) (hS : Shuf a' b' d m) (hb : b' ≤ d.length) (haa : a ≤ a') (hbb : b' ≤ b) : OrdEx κ a b a' b' m := by
  intro p q h1 h2 h3 h4
  by_cases hp : a' ≤ p ∧ p < b'
  · have hq : b' ≤ q := by omega
    rw [hS.2 q (by omega)]
    exact hS.all hb (p := fun x => κ x ≤ κ (g d q)) (fun k k1 k2 => h k q (by omega) (by omega) h3 (by omega)) p hp.1 hp.2
  · rw [hS.2 p (by omega)]
    by_cases hq : a' ≤ q ∧ q < b'
    · exact hS.all hb (p := fun x => κ (g d p) ≤ κ x) (fun k k1 k2 => h p k h1 (by omega) (by omega) (by omega)) q hq.1 hq.2
    · rw [hS.2 q (by omega)]
      exact h p q h1 h2 h3 h4
theorem Pre.mix {κ : Int → Int} {a b : Nat} {d m : List Int} (h : Pre κ a b d) (hS : Shuf a b d m) (hb : b ≤ d.length) : Pre κ a b m := by
  intro h0 k k1 k2
  rw [hS.2 (a - 1) (by omega)]
  exact hS.all hb (p := fun x => κ (g d (a - 1)) ≤ κ x) (fun k k1 k2 => h h0 k k1 k2) k k1 k2
theorem OrdEx.srt {κ : Int → Int} {a b a' b' : Nat} {m : List Int} (h : OrdEx κ a b a' b' m) (hs : Srt κ a' b' m) : Srt κ a b m := by
  intro p q h1 h2 h3
  by_cases e : a' ≤ p ∧ q < b'
  · exact hs p q e.1 h2 e.2
  · exact h p q h1 h2 h3 e
end Go.Proofs.Ytpfkioakjmpimaa.Ord

/- Sorting numbers (Sort1). -/
namespace Go.Proofs.Ytpfkioakjmpimaa.Ord
open Go Go.Proofs.Ytpfkioakjmpimaa.AX Go.Proofs.Ytpfkioakjmpimaa
variable {sb : Bool} {tl : List AV}

/-- What Less says of two numbers, by κ, as long as rows other than r stay. -/
def CmpO (D : Int → Prop) (κ : Int → Int) (r : Nat) (H : AH) : Prop :=
  True ∧ ∀ H', KeepX r H H' → ∀ x y, D x → D y → ∀ Q : AV → AH → Prop, Q (.bool (decide (cmpS (κ x) (κ y) < 0))) H' → AC Try.prog 118 [.int .i64 x, .int .i64 y] H' Q
theorem CmpO.keep {D : Int → Prop} {κ : Int → Int} {r : Nat} {H H1 : AH} (h : CmpO D κ r H) (hK : KeepX r H H1) : CmpO D κ r H1 := ⟨h.1, fun H' h1 => h.2 H' (hK.trans h1)⟩
set_option maxRecDepth 100000 in
theorem insertion_ac (D : Int → Prop) (κ : Int → Int) (r ver a b : Nat) (c : List Int) (H : AH) (Q : AV → AH → Prop) (hC : CmpO D κ r H) (hr : Rw tl r ver H c) (hD : All D c) (hl : c.length ≤ 1000000) (hab : a ≤ b) (hb : b ≤ c.length)
    (h : ∀ (H' : AH) (m : List Int), Shuf a b c m → Srt κ a b m → Rw tl r ver H' m → KeepX r H H' → Q (.tuple []) H') : AC Try.prog 112 [SV sb r 0 c.length ver, .int .i64 a, .int .i64 b] H Q := by
  refine L_body 49 Try.func112 rfl rfl ?_
  generalize hn : c.length = n at *
  refine L_reg [0, 1, 2, 6] (fun K hK => ?_)
  simp [wrap_i64 (a := (a : Int) + 1) (by omega)]
  apply hK; clear hK K
  refine L_block (L_loopV [6] (fun k vs H' => ∃ (i : Nat) (d : List Int), k = n - i ∧ a + 1 ≤ i ∧ i ≤ max (a + 1) b ∧ Shuf a b c d ∧ Srt κ a i d ∧ vs = [.int .i64 i] ∧ Rw tl r ver H' d ∧ KeepX r H H') _ [.int .i64 (a + 1 : Nat)] rfl ⟨a + 1, c, rfl, by omega, by omega, .refl _ _ _, fun p q h1 h2 h3 => by omega, rfl, hr, .refl r H⟩ ?_)
  rintro k _ H1 ⟨i, d, rfl, hi1, hi2, hS, ho, rfl, hrow, hK⟩
  refine L_reg [0, 1, 2, 6, 12] (fun K hK => ?_)
  simp
  apply hK; clear hK K
  refine L_dec (i < b) (by simp) (fun hlt => ?_) (fun hge => L_exit ?_)
  · refine L_block ?_
    refine L_reg [0, 1, 2, 6, 7] (fun K hK => ?_)
    simp
    apply hK; clear hK K
    refine L_block (L_loopV [7] (fun k vs H' => ∃ (j : Nat) (d : List Int), k = j ∧ a ≤ j ∧ j ≤ i ∧ Shuf a b c d ∧ (∀ p q, a ≤ p → p < q → q ≤ i → q ≠ j → κ (g d p) ≤ κ (g d q)) ∧ vs = [.int .i64 j] ∧ Rw tl r ver H' d ∧ KeepX r H H') _ [.int .i64 i] rfl ⟨i, d, rfl, by omega, by omega, hS, fun p q h1 h2 h3 h4 => ho p q h1 h2 (by omega), rfl, hrow, hK⟩ ?_)
    clear hS ho hrow hK d H1
    rintro k _ H1 ⟨j, d, rfl, haj, hj, hS, ho, rfl, hrow, hK⟩
    have hdl : d.length = n := by rw [hS.len]; exact hn
    have hdD := hD.perm hS.1
    by_cases hk : a < k
    · obtain ⟨j, rfl⟩ : ∃ j, k = j + 1 := ⟨k - 1, by omega⟩
      have hx := hrow.ld (i := j + 1) (by omega)
      have hy := hrow.ld (i := j) (by omega)
      have hw : IntKind.i64.wrap (j : Int) = (j : Int) := wrap_i64 (by omega)
      have hi1' : ((j : Int) + 1).toNat = j + 1 := by omega
      have g1 : (0 : Int) ≤ (j : Int) + 1 := by omega
      have g2 : (j : Int) + 1 < (n : Int) := by omega
      have g3 : j < n := by omega
      have g4 : (a : Int) < (j : Int) + 1 := by omega
      have hx0 := hdD (j + 1) (by omega)
      have hy0 := hdD j (by omega)
      have hCk := hC.keep hK
      refine L_regT mixed [0, 1, 2, 6, 7, 30] (by kernel_rfl) (fun K hK => ?_)
      simp [okFn_low, hw, hi1', g1, g2, g3, g4, hx, hy]
      refine exC_mk (fun Q hQ => hCk.2 H1 (.refl _ _) _ _ hx0 hy0 Q hQ) ?_
      simp [pickV]
      apply hK; clear hK K
      by_cases hyx : κ (g d (j + 1)) < κ (g d j)
      · have hneg := cmpS_neg.2 hyx
        refine L_true (by simp [hneg]) ?_
        obtain ⟨H2, H3, e1, e2, e3, e4⟩ := hrow.swap (i := j + 1) (j := j) (by omega) (by omega)
        refine L_block ?_
        refine L_regT mixed [0, 1, 2, 6, 7] (by kernel_rfl) (fun K hK => ?_)
        simp [hw, hi1', g1, g2, g3, hx, hy, e1, e2]
        apply hK; clear hK K
        refine L_reg [0, 1, 2, 6, 7] (fun K hK => ?_)
        simp [hw]
        apply hK; clear hK K
        refine ⟨j, [.int .i64 (j : Nat)], by omega, by simp, j, _, rfl, by omega, by omega, hS.trans (.swap (by omega) (by omega) (by omega)), fun p q h1 h2 h3 h4 => ?_, rfl, e3, hK.trans e4⟩
        have w0 := sw_i (c := d) (i := j + 1) (j := j) (by omega) (by omega)
        have w1 := sw_j (c := d) (i := j + 1) (j := j) (by omega) (by omega)
        have w2 := fun (k : Nat) (k1 : k ≠ j + 1) (k2 : k ≠ j) => sw_o (c := d) (i := j + 1) (j := j) (by omega) (by omega) k1 k2
        by_cases q1 : q = j + 1
        · subst q1
          by_cases p1 : p = j
          · subst p1; rw [w0, w1]; omega
          · rw [w0, w2 p (by omega) p1]
            exact ho p j h1 (by omega) (by omega) (by omega)
        · rw [w2 q q1 h4]
          by_cases p1 : p = j
          · subst p1; rw [w1]
            exact ho (p + 1) q (by omega) (by omega) h3 (by omega)
          · by_cases p2 : p = j + 1
            · subst p2; rw [w0]
              exact ho j q (by omega) (by omega) h3 (by omega)
            · rw [w2 p p2 p1]
              exact ho p q h1 h2 h3 (by omega)
      · have hneg : ¬ cmpS (κ (g d (j + 1))) (κ (g d j)) < 0 := fun h => hyx (cmpS_neg.1 h)
        refine L_false (by simp; omega) (L_exit ?_)
        refine L_reg [0, 1, 2, 6] (fun K hK => ?_)
        simp [wrap_i64 (a := (i : Int) + 1) (by omega)]
        apply hK; clear hK K
        refine ⟨n - (i + 1), [.int .i64 (i + 1 : Nat)], by omega, by simp, i + 1, _, rfl, by omega, by omega, hS, fun p q h1 h2 h3 => ?_, rfl, hrow, hK⟩
        by_cases q1 : q = j + 1
        · subst q1
          by_cases p1 : p = j
          · subst p1; omega
          · have := ho p j h1 (by omega) (by omega) (by omega)
            omega
        · exact ho p q h1 h2 (by omega) q1
    · have hka : k = a := by omega
      subst hka
      refine L_regT mixed [0, 1, 2, 6, 7, 30] (by kernel_rfl) (fun K hK => ?_)
      simp [pickV]
      apply hK; clear hK K
      refine L_false (by simp) (L_exit ?_)
      refine L_reg [0, 1, 2, 6] (fun K hK => ?_)
      simp [wrap_i64 (a := (i : Int) + 1) (by omega)]
      apply hK; clear hK K
      exact ⟨n - (i + 1), [.int .i64 (i + 1 : Nat)], by omega, by simp, i + 1, _, rfl, by omega, by omega, hS, fun p q h1 h2 h3 => ho p q h1 h2 (by omega) (by omega), rfl, hrow, hK⟩
  · have hbi : b ≤ i := by omega
    refine ⟨.inl rfl, _, rfl, h H1 d hS (fun p q h1 h2 h3 => ho p q h1 h2 (by omega)) hrow hK⟩
end Go.Proofs.Ytpfkioakjmpimaa.Ord

/- Sorting numbers (Sort2). -/
namespace Go.Proofs.Ytpfkioakjmpimaa.Ord
open Go Go.Proofs.Ytpfkioakjmpimaa.AX Go.Proofs.Ytpfkioakjmpimaa
variable {sb : Bool} {tl : List AV}

set_option maxRecDepth 100000 in
theorem reverse_ac (r ver a b : Nat) (c : List Int) (H : AH) (Q : AV → AH → Prop) (hr : Rw tl r ver H c) (hl : c.length ≤ 1000000) (hab : a < b) (hb : b ≤ c.length)
    (h : ∀ (H' : AH) (m : List Int), Shuf a b c m → Rw tl r ver H' m → KeepX r H H' → Q (.tuple []) H') : AC Try.prog 116 [SV sb r 0 c.length ver, .int .i64 a, .int .i64 b] H Q := by
  obtain ⟨b, rfl⟩ : ∃ b', b = b' + 1 := ⟨b - 1, by omega⟩
  refine L_body 32 Try.func116 rfl rfl ?_
  refine L_reg [0, 2, 6] (fun K hK => ?_)
  simp
  apply hK; clear hK K
  have hw : IntKind.i64.wrap (b : Int) = (b : Int) := wrap_i64 (by omega)
  refine L_reg [0, 6, 7] (fun K hK => ?_)
  simp [hw]
  apply hK; clear hK K
  generalize hn : c.length = n at *
  refine L_block (L_loopV [6, 7] (fun k vs H' => ∃ (i j : Nat) (d : List Int), k = j + 1 - i ∧ a ≤ i ∧ j ≤ b ∧ Shuf a (b + 1) c d ∧ vs = [.int .i64 i, .int .i64 j] ∧ Rw tl r ver H' d ∧ KeepX r H H') _ [.int .i64 a, .int .i64 b] rfl ⟨a, b, c, rfl, by omega, by omega, .refl _ _ _, rfl, hr, .refl r H⟩ ?_)
  rintro k _ H1 ⟨i, j, d, rfl, hi, hj, hS, rfl, hrow, hK⟩
  refine L_reg [0, 6, 7, 13] (fun K hK => ?_)
  simp
  apply hK; clear hK K
  have hdl : d.length = n := by rw [hS.len]; exact hn
  refine L_dec (i < j) (by simp) (fun hlt => ?_) (fun hge => L_exit ?_)
  · obtain ⟨j, rfl⟩ : ∃ j', j = j' + 1 := ⟨j - 1, by omega⟩
    have hx := hrow.ld (i := i) (by omega)
    have hy := hrow.ld (i := j + 1) (by omega)
    obtain ⟨H2, H3, e1, e2, e3, e4⟩ := hrow.swap (i := i) (j := j + 1) (by omega) (by omega)
    have g1 : i < n := by omega
    have g2 : (j : Int) + 1 < n := by omega
    have g3 : (0 : Int) ≤ (j : Int) + 1 := by omega
    have g4 : ((j : Int) + 1).toNat = j + 1 := by omega
    refine L_block ?_
    refine L_regT mixed [0, 6, 7] (by kernel_rfl) (fun K hK => ?_)
    simp [g1, g2, g3, g4, hx, hy, e1, e2]
    apply hK; clear hK K
    refine L_reg [0, 6, 7] (fun K hK => ?_)
    simp [wrap_i64 (a := (i : Int) + 1) (by omega)]
    apply hK; clear hK K
    refine L_reg [0, 6, 7] (fun K hK => ?_)
    simp [wrap_i64 (a := (j : Int)) (by omega)]
    apply hK; clear hK K
    exact ⟨j + 1 - (i + 1), [.int .i64 (i + 1 : Nat), .int .i64 j], by omega, by simp, i + 1, j, _, rfl, by omega, by omega, hS.trans (.swap (by omega) (by omega) (by omega)), rfl, e3, hK.trans e4⟩
  · exact ⟨.inl rfl, _, rfl, h H1 d hS hrow hK⟩
set_option maxRecDepth 100000 in
theorem order2_ac (D : Int → Prop) (κ : Int → Int) (r ver sp a b k : Nat) (c : List Int) (B H : AH) (Q : AV → AH → Prop) (hC : CmpO D κ r B) (hP : Piv tl r ver sp B c k H) (hk : k ≤ 1000) (hD : All D c) (_hl : c.length ≤ 1000000) (ha : a < c.length) (hb : b < c.length)
    (h : ∀ (H' : AH) (x y : Nat), (x = a ∧ y = b) ∨ (x = b ∧ y = a) → Piv tl r ver sp B c (k + 1) H' → Q (.tuple [.int .i64 x, .int .i64 y]) H') : AC Try.prog 128 [SV sb r 0 c.length ver, .int .i64 a, .int .i64 b, .ptr sp 0 0] H Q := by
  refine L_body 28 Try.func128 rfl rfl ?_
  refine L_reg [0, 1, 2, 3] (fun K hK => ?_)
  simp
  apply hK; clear hK K
  have hx := hP.row.ld ha
  have hy := hP.row.ld hb
  have hCk := hC.keep hP.keep
  refine L_regT mixed [1, 2, 3, 18] (by kernel_rfl) (fun K hK => ?_)
  simp [okFn_low, ha, hb, hx, hy]
  refine exC_mk (fun Q hQ => hCk.2 H (.refl _ _) _ _ (hD b hb) (hD a ha) Q hQ) ?_
  simp
  apply hK; clear hK K
  obtain ⟨s, st, hs, hrow⟩ := hP.cnt
  refine L_dec (cmpS (κ (g c b)) (κ (g c a)) < 0) (by simp) (fun hlt => ?_) (fun hge => ?_)
  · have e1 : ld H sp 0 0 = some (.int .i64 s) := by rw [ld_row hrow]; rfl
    have e2 := store_row (P := Try.prog) (u := 3) (p := 0) sc3 (x := .int .i64 ((s : Int) + 1)) (y := .int .i64 s) rfl hrow rfl
    refine L_reg [1, 2] (fun K hK => ?_)
    simp [aNil, e1, wrap_i64 (a := (s : Int) + 1) (by omega), e2]
    apply hK; clear hK K
    refine L_reg [8, 9] (fun K hK => ?_)
    simp
    apply hK; clear hK K
    exact L_ret ⟨.inr rfl, _, rfl, h _ b a (.inr ⟨rfl, rfl⟩) ⟨⟨by simpa using hP.keep.1, fun j h1 h2 => by rw [set_ne (by have := hP.lt; omega)]; exact hP.keep.2 j h1 h2⟩, (let ⟨s', h'⟩ := hP.row; ⟨s', by rw [set_ne (Ne.symm hP.ne)]; exact h'⟩), hP.lt, hP.ne, s + 1, _, by omega, by rw [get_set hrow]; rfl⟩⟩
  · refine L_reg [8, 9] (fun K hK => ?_)
    simp
    apply hK; clear hK K
    exact L_ret ⟨.inr rfl, _, rfl, h _ a b (.inl ⟨rfl, rfl⟩) (hP.mono (by omega))⟩
set_option maxRecDepth 100000 in
theorem median_ac (D : Int → Prop) (κ : Int → Int) (r ver sp a b d k : Nat) (c : List Int) (B H : AH) (Q : AV → AH → Prop) (hC : CmpO D κ r B) (hP : Piv tl r ver sp B c k H) (hk : k ≤ 900) (hD : All D c) (hl : c.length ≤ 1000000) (ha : a < c.length) (hb : b < c.length) (hd : d < c.length)
    (h : ∀ (H' : AH) (x : Nat), x = a ∨ x = b ∨ x = d → Piv tl r ver sp B c (k + 3) H' → Q (.int .i64 x) H') : AC Try.prog 127 [SV sb r 0 c.length ver, .int .i64 a, .int .i64 b, .int .i64 d, .ptr sp 0 0] H Q := by
  refine L_body 36 Try.func127 rfl rfl ?_
  refine L_reg [0, 1, 2, 3, 4] (fun K hK => ?_)
  simp
  apply hK; clear hK K
  refine L_reg [0, 1, 2, 3, 4] (fun K hK => ?_)
  simp [okFn_low]
  refine order2_ac D κ r ver sp a b k c B H _ hC hP (by omega) hD hl ha hb (fun H1 x y hxy hP1 => ?_)
  simp
  apply hK; clear hK K
  refine L_reg [0, 1, 2, 4] (fun K hK => ?_)
  simp [okFn_low]
  refine order2_ac D κ r ver sp y d (k + 1) c B H1 _ hC hP1 (by omega) hD hl (by omega) hd (fun H2 x2 y2 hxy2 hP2 => ?_)
  simp
  apply hK; clear hK K
  refine L_reg [2] (fun K hK => ?_)
  simp [okFn_low]
  refine order2_ac D κ r ver sp x x2 (k + 2) c B H2 _ hC hP2 (by omega) hD hl (by omega) (by omega) (fun H3 x3 y3 hxy3 hP3 => ?_)
  simp
  apply hK; clear hK K
  refine L_reg [10] (fun K hK => ?_)
  simp
  apply hK; clear hK K
  exact L_ret ⟨.inr rfl, _, rfl, h _ y3 (by omega) hP3⟩
set_option maxRecDepth 100000 in
theorem medianAdj_ac (D : Int → Prop) (κ : Int → Int) (r ver sp a k : Nat) (c : List Int) (B H : AH) (Q : AV → AH → Prop) (hC : CmpO D κ r B) (hP : Piv tl r ver sp B c k H) (hk : k ≤ 900) (hD : All D c) (hl : c.length ≤ 1000000) (ha : 1 ≤ a) (hb : a + 1 < c.length)
    (h : ∀ (H' : AH) (x : Nat), a ≤ x + 1 ∧ x ≤ a + 1 → Piv tl r ver sp B c (k + 3) H' → Q (.int .i64 x) H') : AC Try.prog 126 [SV sb r 0 c.length ver, .int .i64 a, .ptr sp 0 0] H Q := by
  obtain ⟨a, rfl⟩ : ∃ b', a = b' + 1 := ⟨a - 1, by omega⟩
  refine L_body 15 Try.func126 rfl rfl ?_
  refine L_reg [0, 1, 2] (fun K hK => ?_)
  simp
  apply hK; clear hK K
  refine L_reg [6] (fun K hK => ?_)
  simp [okFn_low, wrap_i64 (a := (a : Int)) (by omega), wrap_i64 (a := (a : Int) + 1 + 1) (by omega)]
  refine median_ac D κ r ver sp a (a + 1) (a + 1 + 1) k c B H _ hC hP hk hD hl (by omega) (by omega) (by omega) (fun H1 x hx hP1 => ?_)
  simp
  apply hK; clear hK K
  exact L_ret ⟨.inr rfl, _, rfl, h _ x (by omega) hP1⟩
end Go.Proofs.Ytpfkioakjmpimaa.Ord

/- Sorting numbers (Sort3). -/
namespace Go.Proofs.Ytpfkioakjmpimaa.Ord
open Go Go.Proofs.Ytpfkioakjmpimaa.AX Go.Proofs.Ytpfkioakjmpimaa
variable {sb : Bool} {tl : List AV}

set_option maxRecDepth 100000 in
theorem pivot_ac (D : Int → Prop) (κ : Int → Int) (r ver a l : Nat) (c : List Int) (H : AH) (Q : AV → AH → Prop) (hC : CmpO D κ r H) (hr : Rw tl r ver H c) (hrl : r < H.length) (hD : All D c) (hlen : c.length ≤ 1000000) (hl : 12 < l) (hb : a + l ≤ c.length)
    (h : ∀ (H' : AH) (x : Nat) (hint : Int), a ≤ x ∧ x < a + l → KeepX r H H' → Rw tl r ver H' c → Q (.tuple [.int .i64 x, .int .i64 hint]) H') : AC Try.prog 115 [SV sb r 0 c.length ver, .int .i64 a, .int .i64 (a + l : Nat)] H Q := by
  refine L_body 57 Try.func115 rfl rfl ?_
  refine L_reg [0, 1, 2] (fun K hK => ?_)
  simp
  apply hK; clear hK K
  have hq : ((l : Int)).tdiv 4 = ((l / 4 : Nat) : Int) := by rw [Int.tdiv_eq_ediv_of_nonneg (by omega)]; rfl
  obtain ⟨q, hq0⟩ : ∃ q, q = l / 4 := ⟨_, rfl⟩
  rw [← hq0] at hq
  obtain ⟨i, hi⟩ : ∃ i : Nat, (a : Int) + q = i := ⟨a + q, by omega⟩
  obtain ⟨j, hj⟩ : ∃ i : Nat, (a : Int) + (q : Int) * 2 = i := ⟨a + q * 2, by omega⟩
  obtain ⟨k, hk⟩ : ∃ i : Nat, (a : Int) + (q : Int) * 3 = i := ⟨a + q * 3, by omega⟩
  refine L_reg [0, 1, 8] (fun K hK => ?_)
  simp [wrap_i64 (a := (l : Int)) (by omega), show ((a : Int) + l - a) = l by omega]
  apply hK; clear hK K
  refine L_reg [0, 1, 8, 9] (fun K hK => ?_)
  simp [alloc_z zt3]
  apply hK; clear hK K
  have hP : Piv tl r ver H.length H c 0 (H ++ [.row [.int .i64 0] 0 0 false]) := ⟨(KeepX.refl r H).ext (.push _ _), hr.ext (.push _ _), Nat.le_refl _, by omega, 0, 0, Nat.le_refl _, by simp⟩
  generalize H ++ [AObj.row [.int .i64 0] 0 0 false] = H0 at hP ⊢
  generalize hsp : H.length = sp at hP ⊢
  refine L_reg [0, 1, 8, 9, 10] (fun K hK => ?_)
  simp [hq, wrap_i64 (a := (q : Int)) (by omega), hi, wrap_i64 (a := (i : Int)) (by omega)]
  apply hK; clear hK K
  refine L_reg [0, 1, 8, 9, 10, 11] (fun K hK => ?_)
  simp [hq, wrap_i64 (a := (q : Int)) (by omega), wrap_i64 (a := (q : Int) * 2) (by omega), hj, wrap_i64 (a := (j : Int)) (by omega)]
  apply hK; clear hK K
  refine L_reg [0, 8, 9, 10, 11, 12] (fun K hK => ?_)
  simp [hq, wrap_i64 (a := (q : Int)) (by omega), wrap_i64 (a := (q : Int) * 3) (by omega), hk, wrap_i64 (a := (k : Int)) (by omega)]
  apply hK; clear hK K
  refine L_reg [0, 8, 9, 10, 11, 12, 32] (fun K hK => ?_)
  simp
  apply hK; clear hK K
  refine L_true (by simp; omega) ?_
  refine L_reg [0, 9, 10, 11, 12, 34] (fun K hK => ?_)
  simp
  apply hK; clear hK K
  refine L_dec (50 ≤ (l : Int)) (by simp) (fun h50 => ?_) (fun h50 => ?_)
  · refine L_reg [0, 9, 10, 11, 12] (fun K hK => ?_)
    simp [okFn_low]
    refine medianAdj_ac D κ r ver sp i 0 c H H0 _ hC hP (by omega) hD hlen (by omega) (by omega) (fun H1 x hx hP => ?_)
    simp
    apply hK; clear hK K
    refine L_reg [0, 9, 10, 11, 12] (fun K hK => ?_)
    simp [okFn_low]
    refine medianAdj_ac D κ r ver sp j _ c H H1 _ hC hP (by omega) hD hlen (by omega) (by omega) (fun H2 y hy hP => ?_)
    simp
    apply hK; clear hK K
    refine L_reg [0, 9, 10, 11, 12] (fun K hK => ?_)
    simp [okFn_low]
    refine medianAdj_ac D κ r ver sp k _ c H H2 _ hC hP (by omega) hD hlen (by omega) (by omega) (fun H3 z hz hP => ?_)
    simp
    apply hK; clear hK K
    refine L_reg [9, 11] (fun K hK => ?_)
    simp [okFn_low]
    refine median_ac D κ r ver sp x y z _ c H H3 _ hC hP (by omega) hD hlen (by omega) (by omega) (by omega) (fun H4 w hw hP => ?_)
    simp
    apply hK; clear hK K
    obtain ⟨s, st, hs, hrow⟩ := hP.cnt
    have e1 : ld H4 sp 0 0 = some (.int .i64 s) := by rw [ld_row hrow]; rfl
    refine L_reg [11, 49] (fun K hK => ?_)
    simp [e1]
    apply hK; clear hK K
    refine L_block ?_
    refine L_reg [11, 49, 51] (fun K hK => ?_)
    simp
    apply hK; clear hK K
    refine L_split rfl (fun _ => ?_) (fun _ => ?_)
    · refine L_reg [6, 7] (fun K hK => ?_)
      simp
      apply hK; clear hK K
      exact L_ret ⟨.inr rfl, _, rfl, h _ w 1 (by omega) hP.keep hP.row⟩
    · refine L_reg [11, 54] (fun K hK => ?_)
      simp
      apply hK; clear hK K
      refine L_split rfl (fun _ => ?_) (fun _ => ?_)
      · refine L_reg [6, 7] (fun K hK => ?_)
        simp
        apply hK; clear hK K
        exact L_ret ⟨.inr rfl, _, rfl, h _ w 2 (by omega) hP.keep hP.row⟩
      · refine L_reg [6, 7] (fun K hK => ?_)
        simp
        apply hK; clear hK K
        exact L_ret ⟨.inr rfl, _, rfl, h _ w 0 (by omega) hP.keep hP.row⟩
  · refine L_reg [9, 11] (fun K hK => ?_)
    simp [okFn_low]
    refine median_ac D κ r ver sp i j k _ c H H0 _ hC hP (by omega) hD hlen (by omega) (by omega) (by omega) (fun H4 w hw hP => ?_)
    simp
    apply hK; clear hK K
    obtain ⟨s, st, hs, hrow⟩ := hP.cnt
    have e1 : ld H4 sp 0 0 = some (.int .i64 s) := by rw [ld_row hrow]; rfl
    refine L_reg [11, 49] (fun K hK => ?_)
    simp [e1]
    apply hK; clear hK K
    refine L_block ?_
    refine L_reg [11, 49, 51] (fun K hK => ?_)
    simp
    apply hK; clear hK K
    refine L_split rfl (fun _ => ?_) (fun _ => ?_)
    · refine L_reg [6, 7] (fun K hK => ?_)
      simp
      apply hK; clear hK K
      exact L_ret ⟨.inr rfl, _, rfl, h _ w 1 (by omega) hP.keep hP.row⟩
    · refine L_reg [11, 54] (fun K hK => ?_)
      simp
      apply hK; clear hK K
      refine L_split rfl (fun _ => ?_) (fun _ => ?_)
      · refine L_reg [6, 7] (fun K hK => ?_)
        simp
        apply hK; clear hK K
        exact L_ret ⟨.inr rfl, _, rfl, h _ w 2 (by omega) hP.keep hP.row⟩
      · refine L_reg [6, 7] (fun K hK => ?_)
        simp
        apply hK; clear hK K
        exact L_ret ⟨.inr rfl, _, rfl, h _ w 0 (by omega) hP.keep hP.row⟩
end Go.Proofs.Ytpfkioakjmpimaa.Ord

/- Sorting numbers (Part). -/
namespace Go.Proofs.Ytpfkioakjmpimaa.Ord
open Go Go.Proofs.Ytpfkioakjmpimaa.AX Go.Proofs.Ytpfkioakjmpimaa
variable {sb : Bool} {tl : List AV}

set_option maxRecDepth 100000 in
theorem partEq_ac (D : Int → Prop) (κ : Int → Int) (r ver a b pv : Nat) (c : List Int) (H : AH) (Q : AV → AH → Prop) (hC : CmpO D κ r H) (hr : Rw tl r ver H c) (hD : All D c) (hl : c.length ≤ 1000000) (hpa : a ≤ pv) (hpb : pv < b) (hb : b ≤ c.length)
    (h : ∀ (H' : AH) (m : List Int) (p : Nat), a < p → p ≤ b → Shuf a b c m → (∀ k, a ≤ k → k < p → κ (g m k) ≤ κ (g c pv)) → (∀ k, p ≤ k → k < b → κ (g c pv) < κ (g m k)) → Rw tl r ver H' m → KeepX r H H' → Q (.int .i64 p) H') : AC Try.prog 119 [SV sb r 0 c.length ver, .int .i64 a, .int .i64 b, .int .i64 pv] H Q := by
  refine L_body 84 Try.func119 rfl rfl ?_
  refine L_reg [0, 1, 2, 3] (fun K hK => ?_)
  simp
  apply hK; clear hK K
  generalize hn : c.length = n at *
  obtain ⟨b0, rfl⟩ : ∃ b', b = b' + 1 := ⟨b - 1, by omega⟩
  generalize hb0 : b0 + 1 = b at *
  have hx0 := hr.ld (i := pv) (by omega)
  have hy0 := hr.ld (i := a) (by omega)
  obtain ⟨H2, H3, e1, e2, e3, e4⟩ := hr.swap (i := a) (j := pv) (by omega) (by omega)
  have ga : a < n := by omega
  have gp : pv < n := by omega
  refine L_regT mixed [0, 1, 2] (by kernel_rfl) (fun K hK => ?_)
  simp [ga, gp, hx0, hy0, e1, e2]
  apply hK; clear hK K
  have hbi : (b : Int) - 1 = b0 := by omega
  refine L_reg [0, 1, 9, 10] (fun K hK => ?_)
  simp [wrap_i64 (a := (a : Int) + 1) (by omega), hbi, wrap_i64 (a := (b0 : Int)) (by omega)]
  apply hK; clear hK K
  have hS0 : Shuf a b c (sw c a pv) := .swap (by omega) (by omega) (by omega)
  have hpiv : g (sw c a pv) a = g c pv := sw_i (by omega) (by omega)
  generalize hd0 : sw c a pv = d0 at e3 hS0 hpiv
  clear e1 e2 hx0 hy0
  generalize hLOW : (fun x => ¬ κ (g c pv) < κ x) = LOW
  have hlow : ∀ x, (LOW x → ¬ cmpS (κ (g c pv)) (κ x) < 0) ∧ (¬ LOW x → cmpS (κ (g c pv)) (κ x) < 0) := by
    intro x
    rw [← hLOW]
    constructor
    · intro h1 h2; exact h1 (cmpS_neg.1 h2)
    · intro h1; exact cmpS_neg.2 (Decidable.not_not.1 h1)
  refine L_block (L_loopV [9, 10] (fun n' vs H' => ∃ (i j : Nat) (d : List Int), n' = j + 1 - i ∧ a + 1 ≤ i ∧ i ≤ j + 1 ∧ j < b ∧ Shuf a b c d ∧ g d a = g c pv ∧ (∀ k, a < k → k < i → LOW (g d k)) ∧ (∀ k, j < k → k < b → ¬ LOW (g d k)) ∧ vs = [.int .i64 i, .int .i64 j] ∧ Rw tl r ver H' d ∧ KeepX r H H') _ [.int .i64 (a + 1 : Nat), .int .i64 b0] rfl ⟨a + 1, b0, d0, rfl, by omega, by omega, by omega, hS0, hpiv, fun k k1 k2 => by omega, fun k k1 k2 => by omega, rfl, e3, e4⟩ ?_)
  clear e3 e4 hS0 hpiv hd0 d0 hr H2 H3
  rintro _ _ H1 ⟨i, j, d, rfl, hi, hij0, hjb, hS, hpiv, hLo, hHi, rfl, hrow, hK⟩
  have hdl : d.length = n := by rw [hS.len]; exact hn
  have hdD := hD.perm hS.1
  have hCk := hC.keep hK
  have ha0 := hrow.ld (i := a) (by omega)
  rw [hpiv] at ha0
  have hdDa : D (g c pv) := by rw [← hpiv]; exact hdD a (by omega)
  refine L_block ?_
  refine L_blockR (fun e' H' => ∃ (x2 : Nat) (v : AV), i ≤ x2 ∧ x2 ≤ j + 1 ∧ (∀ k, a < k → k < x2 → LOW (g d k)) ∧ (x2 ≤ j → ¬ LOW (g d x2)) ∧ e' = [(0, SV sb r 0 n ver), (1, .int .i64 a), (9, .int .i64 (x2 : Nat)), (10, .int .i64 (j : Nat)), (43, v)] ∧ H1 = H') (L_loopV [9] (fun n' vs H' => ∃ x2 : Nat, n' = j + 1 - x2 ∧ i ≤ x2 ∧ x2 ≤ j + 1 ∧ (∀ k, a < k → k < x2 → LOW (g d k)) ∧ vs = [.int .i64 x2] ∧ H1 = H') _ [.int .i64 i] rfl ⟨i, rfl, by omega, by omega, hLo, rfl, rfl⟩ ?_) ?_
  · rintro n' _ _ ⟨x2, rfl, h1, h2, hR, rfl, rfl⟩
    by_cases hij : x2 ≤ j
    · have hx := hrow.ld (i := x2) (by omega)
      have g1 : x2 < n := by omega
      refine L_regT mixed [0, 1, 9, 10, 43] (by kernel_rfl) (fun K hK => ?_)
      simp [okFn_low, hij, g1, ga, hx, ha0]
      refine exC_mk (fun Q hQ => hCk.2 H1 (.refl _ _) _ _ hdDa (hdD x2 (by omega)) Q hQ) ?_
      simp [pickV]
      apply hK; clear hK K
      have hc := hlow (g d x2)
      by_cases hL : LOW (g d x2)
      · refine L_true (by first | simpa using hc.1 hL | simpa using hc.2 hL) ?_
        refine L_block ?_
        refine L_reg [0, 1, 9, 10] (fun K hK => ?_)
        simp [wrap_i64 (a := (x2 : Int) + 1) (by omega)]
        apply hK; clear hK K
        refine ⟨j + 1 - (x2 + 1), [.int .i64 (x2 + 1 : Nat)], by omega, by simp, x2 + 1, rfl, by omega, by omega, fun k k1 k2 => ?_, rfl, rfl⟩
        by_cases k3 : k = x2
        · rw [k3]; exact hL
        · exact hR k k1 (by omega)
      · refine L_false (by first | simpa using hc.1 hL | simpa using hc.2 hL) (L_exit ?_)
        exact ⟨x2, _, h1, h2, hR, fun _ => hL, rfl, rfl⟩
    · refine L_regT mixed [0, 1, 9, 10, 43] (by kernel_rfl) (fun K hK => ?_)
      simp [pickV, hij]
      apply hK; clear hK K
      refine L_false (by simp) (L_exit ?_)
      exact ⟨x2, _, h1, h2, hR, fun h => absurd h hij, rfl, rfl⟩
  rintro _ _ ⟨i1, vu, h1u, h2u, hRu, hsu, rfl, rfl⟩
  refine L_blockR (fun e' H' => ∃ (x2 : Nat) (v : AV), x2 ≤ j ∧ i1 ≤ x2 + 1 ∧ (∀ k, x2 < k → k < b → ¬ LOW (g d k)) ∧ (i1 ≤ x2 → LOW (g d x2)) ∧ e' = [(0, SV sb r 0 n ver), (1, .int .i64 a), (9, .int .i64 (i1 : Nat)), (10, .int .i64 (x2 : Nat)), (43, vu), (59, v)] ∧ H1 = H') (L_loopV [10] (fun n' vs H' => ∃ x2 : Nat, n' = x2 + 1 - i1 ∧ x2 ≤ j ∧ i1 ≤ x2 + 1 ∧ (∀ k, x2 < k → k < b → ¬ LOW (g d k)) ∧ vs = [.int .i64 x2] ∧ H1 = H') _ [.int .i64 j] rfl ⟨j, rfl, by omega, by omega, hHi, rfl, rfl⟩ ?_) ?_
  · rintro n' _ _ ⟨x2, rfl, h1, h2, hR, rfl, rfl⟩
    by_cases hij : i1 ≤ x2
    · have hx := hrow.ld (i := x2) (by omega)
      have g1 : x2 < n := by omega
      refine L_regT mixed [0, 1, 9, 10, 43, 59] (by kernel_rfl) (fun K hK => ?_)
      simp [okFn_low, hij, g1, ga, hx, ha0]
      refine exC_mk (fun Q hQ => hCk.2 H1 (.refl _ _) _ _ hdDa (hdD x2 (by omega)) Q hQ) ?_
      simp [pickV]
      apply hK; clear hK K
      have hc := hlow (g d x2)
      by_cases hL : LOW (g d x2)
      · refine L_false (by first | simpa using hc.1 hL | simpa using hc.2 hL) (L_exit ?_)
        exact ⟨x2, _, h1, h2, hR, fun _ => hL, rfl, rfl⟩
      · refine L_true (by first | simpa using hc.1 hL | simpa using hc.2 hL) ?_
        refine L_block ?_
        obtain ⟨x3, rfl⟩ : ∃ x3, x2 = x3 + 1 := ⟨x2 - 1, by omega⟩
        refine L_reg [0, 1, 9, 10, 43] (fun K hK => ?_)
        simp [wrap_i64 (a := (x3 : Int)) (by omega)]
        apply hK; clear hK K
        refine ⟨x3 + 1 - i1, [.int .i64 (x3 : Nat)], by omega, by simp, x3, rfl, by omega, by omega, fun k k1 k2 => ?_, rfl, rfl⟩
        by_cases k3 : k = x3 + 1
        · rw [k3]; exact hL
        · exact hR k (by omega) k2
    · refine L_regT mixed [0, 1, 9, 10, 43, 59] (by kernel_rfl) (fun K hK => ?_)
      simp [pickV, hij]
      apply hK; clear hK K
      refine L_false (by simp) (L_exit ?_)
      exact ⟨x2, _, h1, h2, hR, fun h => absurd h hij, rfl, rfl⟩
  rintro _ _ ⟨j1, vd, h1d, h2d, hRd, hsd, rfl, rfl⟩
  refine L_reg [0, 1, 9, 10, 64] (fun K hK => ?_)
  simp
  apply hK; clear hK K
  refine L_dec (j1 < i1) (by simp) (fun hlt => L_exit ?_) (fun hge => ?_)
  · refine L_reg [8] (fun K hK => ?_)
    simp
    apply hK; clear hK K
    have hLd : ∀ x, LOW x ↔ κ x ≤ κ (g c pv) := fun x => by rw [← hLOW]; exact Int.not_lt
    have e : i1 = j1 + 1 := by omega
    have q1 : ∀ k, a ≤ k → k < i1 → κ (g d k) ≤ κ (g c pv) := by
      intro k k1 k2
      by_cases k3 : k = a
      · rw [k3, hpiv]; exact Int.le_refl _
      · exact (hLd _).1 (hRu k (by omega) k2)
    have q2 : ∀ k, i1 ≤ k → k < b → κ (g c pv) < κ (g d k) := fun k k1 k2 => Int.not_le.1 fun h5 => hRd k (by omega) k2 ((hLd _).2 h5)
    exact L_ret ⟨.inr rfl, _, rfl, h H1 d i1 (by omega) (by omega) hS q1 q2 hrow hK⟩
  · have hl1 := hsu (by omega)
    have hl2 := hsd (by omega)
    have hne : i1 ≠ j1 := by rintro rfl; exact hl1 hl2
    obtain ⟨j2, rfl⟩ : ∃ j2, j1 = j2 + 1 := ⟨j1 - 1, by omega⟩
    have hx := hrow.ld (i := i1) (by omega)
    have hy := hrow.ld (i := j2 + 1) (by omega)
    obtain ⟨H2, H3, e1, e2, e3, e4⟩ := hrow.swap (i := i1) (j := j2 + 1) (by omega) (by omega)
    have g1 : i1 < n := by omega
    have g2 : (j2 : Int) + 1 < n := by omega
    have g3 : (0 : Int) ≤ (j2 : Int) + 1 := by omega
    have g4 : ((j2 : Int) + 1).toNat = j2 + 1 := by omega
    refine L_regT mixed [0, 1, 9, 10] (by kernel_rfl) (fun K hK => ?_)
    simp [g1, g2, g3, g4, hx, hy, e1, e2]
    apply hK; clear hK K
    refine L_reg [0, 1, 9, 10] (fun K hK => ?_)
    simp [wrap_i64 (a := (i1 : Int) + 1) (by omega)]
    apply hK; clear hK K
    refine L_reg [0, 1, 9, 10] (fun K hK => ?_)
    simp [wrap_i64 (a := (j2 : Int)) (by omega)]
    apply hK; clear hK K
    have w0 := sw_i (c := d) (i := i1) (j := j2 + 1) (by omega) (by omega)
    have w1 := sw_j (c := d) (i := i1) (j := j2 + 1) (by omega) (by omega)
    have w2 := fun (k : Nat) (k1 : k ≠ i1) (k2 : k ≠ j2 + 1) => sw_o (c := d) (i := i1) (j := j2 + 1) (by omega) (by omega) k1 k2
    refine ⟨j2 + 1 - (i1 + 1), [.int .i64 (i1 + 1 : Nat), .int .i64 j2], by omega, by simp, i1 + 1, j2, _, rfl, by omega, by omega, by omega, hS.trans (.swap (by omega) (by omega) (by omega)), by rw [w2 a (by omega) (by omega)]; exact hpiv, fun k k1 k2 => ?_, fun k k1 k2 => ?_, rfl, e3, hK.trans e4⟩
    · by_cases k3 : k = i1
      · rw [k3, w0]; exact hl2
      · rw [w2 k k3 (by omega)]; exact hRu k k1 (by omega)
    · by_cases k3 : k = j2 + 1
      · rw [k3, w1]; exact hl1
      · rw [w2 k (by omega) k3]; exact hRd k (by omega) k2
end Go.Proofs.Ytpfkioakjmpimaa.Ord

/- Sorting numbers (Part2). -/
namespace Go.Proofs.Ytpfkioakjmpimaa.Ord
open Go Go.Proofs.Ytpfkioakjmpimaa.AX Go.Proofs.Ytpfkioakjmpimaa
variable {sb : Bool} {tl : List AV}

set_option maxRecDepth 100000 in
theorem part_ac (D : Int → Prop) (κ : Int → Int) (r ver a b pv : Nat) (c : List Int) (H : AH) (Q : AV → AH → Prop) (hC : CmpO D κ r H) (hr : Rw tl r ver H c) (hD : All D c) (hl : c.length ≤ 1000000) (hpa : a ≤ pv) (hpb : pv < b) (hb : b ≤ c.length)
    (h : ∀ (H' : AH) (m : List Int) (p : Nat) (bb : Bool), a ≤ p → p < b → Shuf a b c m → (∀ k, a ≤ k → k < p → κ (g m k) ≤ κ (g m p)) → (∀ k, p < k → k < b → κ (g m p) ≤ κ (g m k)) → Rw tl r ver H' m → KeepX r H H' → Q (.tuple [.int .i64 p, .bool bb]) H') : AC Try.prog 120 [SV sb r 0 c.length ver, .int .i64 a, .int .i64 b, .int .i64 pv] H Q := by
  refine L_body 168 Try.func120 rfl rfl ?_
  refine L_reg [0, 1, 2, 3] (fun K hK => ?_)
  simp
  apply hK; clear hK K
  generalize hn : c.length = n at *
  obtain ⟨b0, rfl⟩ : ∃ b', b = b' + 1 := ⟨b - 1, by omega⟩
  generalize hb0 : b0 + 1 = b at *
  have hx0 := hr.ld (i := pv) (by omega)
  have hy0 := hr.ld (i := a) (by omega)
  obtain ⟨H2, H3, e1, e2, e3, e4⟩ := hr.swap (i := a) (j := pv) (by omega) (by omega)
  have ga : a < n := by omega
  have gp : pv < n := by omega
  refine L_regT mixed [0, 1, 2] (by kernel_rfl) (fun K hK => ?_)
  simp [ga, gp, hx0, hy0, e1, e2]
  apply hK; clear hK K
  have hbi : (b : Int) - 1 = b0 := by omega
  obtain ⟨i, hi⟩ : ∃ i : Nat, (a : Int) + 1 = i := ⟨a + 1, by omega⟩
  refine L_reg [0, 1, 10, 11] (fun K hK => ?_)
  simp [hi, wrap_i64 (a := (i : Int)) (by omega), hbi, wrap_i64 (a := (b0 : Int)) (by omega)]
  apply hK; clear hK K
  have hS0 : Shuf a b c (sw c a pv) := .swap (by omega) (by omega) (by omega)
  have hpiv : g (sw c a pv) a = g c pv := sw_i (by omega) (by omega)
  generalize hd0 : sw c a pv = d0 at e3 hS0 hpiv
  clear e1 e2 hx0 hy0
  generalize hLOW : (fun x => κ x < κ (g c pv)) = LOW
  have hlow : ∀ x, (LOW x → cmpS (κ x) (κ (g c pv)) < 0) ∧ (¬ LOW x → ¬ cmpS (κ x) (κ (g c pv)) < 0) := by
    intro x
    rw [← hLOW]
    constructor
    · intro h1; exact cmpS_neg.2 h1
    · intro h1 h2; exact h1 (cmpS_neg.1 h2)
  have hLd : ∀ x, LOW x ↔ κ x < κ (g c pv) := fun x => by rw [← hLOW]
  have hdD := hD.perm hS0.1
  have hCk := hC.keep e4
  have hdl : d0.length = n := by rw [hS0.len]; exact hn
  have ha0 := e3.ld (i := a) (by omega)
  have hLo : ∀ k, a < k → k < i → LOW (g d0 k) := fun k k1 k2 => by omega
  have hHi : ∀ k, b0 < k → k < b → ¬ LOW (g d0 k) := fun k k1 k2 => by omega
  rw [hpiv] at ha0
  have hdDa : D (g c pv) := by rw [← hpiv]; exact hdD a (by omega)
  have hrow := e3
  clear e3
  clear hd0
  generalize H3 = H1 at *
  generalize d0 = d at *
  generalize hj0 : b0 = j at *
  refine L_blockR (fun e' H' => ∃ (x2 : Nat) (v : AV), i ≤ x2 ∧ x2 ≤ j + 1 ∧ (∀ k, a < k → k < x2 → LOW (g d k)) ∧ (x2 ≤ j → ¬ LOW (g d x2)) ∧ e' = [(0, SV sb r 0 n ver), (1, .int .i64 a), (10, .int .i64 (x2 : Nat)), (11, .int .i64 (j : Nat)), (43, v)] ∧ H1 = H') (L_loopV [10] (fun n' vs H' => ∃ x2 : Nat, n' = j + 1 - x2 ∧ i ≤ x2 ∧ x2 ≤ j + 1 ∧ (∀ k, a < k → k < x2 → LOW (g d k)) ∧ vs = [.int .i64 x2] ∧ H1 = H') _ [.int .i64 i] rfl ⟨i, rfl, by omega, by omega, hLo, rfl, rfl⟩ ?_) ?_
  · rintro n' _ _ ⟨x2, rfl, h1, h2, hR, rfl, rfl⟩
    by_cases hij : x2 ≤ j
    · have hx := hrow.ld (i := x2) (by omega)
      have g1 : x2 < n := by omega
      refine L_regT mixed [0, 1, 10, 11, 43] (by kernel_rfl) (fun K hK => ?_)
      simp [okFn_low, hij, g1, ga, hx, ha0]
      refine exC_mk (fun Q hQ => hCk.2 H1 (.refl _ _) _ _ (hdD x2 (by omega)) hdDa Q hQ) ?_
      simp [pickV]
      apply hK; clear hK K
      have hc := hlow (g d x2)
      by_cases hL : LOW (g d x2)
      · refine L_true (by first | simpa using hc.1 hL | simpa using hc.2 hL) ?_
        refine L_block ?_
        refine L_reg [0, 1, 10, 11] (fun K hK => ?_)
        simp [wrap_i64 (a := (x2 : Int) + 1) (by omega)]
        apply hK; clear hK K
        refine ⟨j + 1 - (x2 + 1), [.int .i64 (x2 + 1 : Nat)], by omega, by simp, x2 + 1, rfl, by omega, by omega, fun k k1 k2 => ?_, rfl, rfl⟩
        by_cases k3 : k = x2
        · rw [k3]; exact hL
        · exact hR k k1 (by omega)
      · refine L_false (by first | simpa using hc.1 hL | simpa using hc.2 hL) (L_exit ?_)
        exact ⟨x2, _, h1, h2, hR, fun _ => hL, rfl, rfl⟩
    · refine L_regT mixed [0, 1, 10, 11, 43] (by kernel_rfl) (fun K hK => ?_)
      simp [pickV, hij]
      apply hK; clear hK K
      refine L_false (by simp) (L_exit ?_)
      exact ⟨x2, _, h1, h2, hR, fun h => absurd h hij, rfl, rfl⟩
  rintro _ _ ⟨i1, vu, h1u, h2u, hRu, hsu, rfl, rfl⟩
  refine L_blockR (fun e' H' => ∃ (x2 : Nat) (v : AV), x2 ≤ j ∧ i1 ≤ x2 + 1 ∧ (∀ k, x2 < k → k < b → ¬ LOW (g d k)) ∧ (i1 ≤ x2 → LOW (g d x2)) ∧ e' = [(0, SV sb r 0 n ver), (1, .int .i64 a), (10, .int .i64 (i1 : Nat)), (11, .int .i64 (x2 : Nat)), (43, vu), (60, v)] ∧ H1 = H') (L_loopV [11] (fun n' vs H' => ∃ x2 : Nat, n' = x2 + 1 - i1 ∧ x2 ≤ j ∧ i1 ≤ x2 + 1 ∧ (∀ k, x2 < k → k < b → ¬ LOW (g d k)) ∧ vs = [.int .i64 x2] ∧ H1 = H') _ [.int .i64 j] rfl ⟨j, rfl, by omega, by omega, hHi, rfl, rfl⟩ ?_) ?_
  · rintro n' _ _ ⟨x2, rfl, h1, h2, hR, rfl, rfl⟩
    by_cases hij : i1 ≤ x2
    · have hx := hrow.ld (i := x2) (by omega)
      have g1 : x2 < n := by omega
      refine L_regT mixed [0, 1, 10, 11, 43, 60] (by kernel_rfl) (fun K hK => ?_)
      simp [okFn_low, hij, g1, ga, hx, ha0]
      refine exC_mk (fun Q hQ => hCk.2 H1 (.refl _ _) _ _ (hdD x2 (by omega)) hdDa Q hQ) ?_
      simp [pickV]
      apply hK; clear hK K
      have hc := hlow (g d x2)
      by_cases hL : LOW (g d x2)
      · refine L_false (by first | simpa using hc.1 hL | simpa using hc.2 hL) (L_exit ?_)
        exact ⟨x2, _, h1, h2, hR, fun _ => hL, rfl, rfl⟩
      · refine L_true (by first | simpa using hc.1 hL | simpa using hc.2 hL) ?_
        refine L_block ?_
        obtain ⟨x3, rfl⟩ : ∃ x3, x2 = x3 + 1 := ⟨x2 - 1, by omega⟩
        refine L_reg [0, 1, 10, 11, 43] (fun K hK => ?_)
        simp [wrap_i64 (a := (x3 : Int)) (by omega)]
        apply hK; clear hK K
        refine ⟨x3 + 1 - i1, [.int .i64 (x3 : Nat)], by omega, by simp, x3, rfl, by omega, by omega, fun k k1 k2 => ?_, rfl, rfl⟩
        by_cases k3 : k = x3 + 1
        · rw [k3]; exact hL
        · exact hR k (by omega) k2
    · refine L_regT mixed [0, 1, 10, 11, 43, 60] (by kernel_rfl) (fun K hK => ?_)
      simp [pickV, hij]
      apply hK; clear hK K
      refine L_false (by simp) (L_exit ?_)
      exact ⟨x2, _, h1, h2, hR, fun h => absurd h hij, rfl, rfl⟩
  rintro _ _ ⟨j1, vd, h1d, h2d, hRd, hsd, rfl, rfl⟩
  refine L_reg [0, 1, 10, 11, 65] (fun K hK => ?_)
  simp
  apply hK; clear hK K
  refine L_dec (j1 < i1) (by simp) (fun hlt => ?_) (fun hge => ?_)
  · have e : i1 = j1 + 1 := by omega
    obtain ⟨f1, f2, f3⟩ := part_fin (D := κ) hLd (by omega) (show a ≤ j1 by omega) (by omega) hS0 hpiv (by rw [← e]; exact hRu) hRd
    have hx := hrow.ld (i := j1) (by omega)
    obtain ⟨H4, H5, e1, e2, e3, e5⟩ := hrow.swap (i := j1) (j := a) (by omega) (by omega)
    rw [hpiv] at e1
    have g1 : j1 < n := by omega
    refine L_regT mixed [11] (by kernel_rfl) (fun K hK => ?_)
    simp [g1, ga, hx, ha0, e1, e2]
    apply hK; clear hK K
    refine L_reg [8, 9] (fun K hK => ?_)
    simp
    apply hK; clear hK K
    exact L_ret ⟨.inr rfl, _, rfl, h H5 _ j1 true (by omega) (by omega) f1 f2 f3 e3 (e4.trans e5)⟩
  · have hl1 := hsu (by omega)
    have hl2 := hsd (by omega)
    have hne : i1 ≠ j1 := by rintro rfl; exact hl1 hl2
    obtain ⟨j2, rfl⟩ : ∃ j2, j1 = j2 + 1 := ⟨j1 - 1, by omega⟩
    have hx := hrow.ld (i := i1) (by omega)
    have hy := hrow.ld (i := j2 + 1) (by omega)
    obtain ⟨H4, H5, e1, e2, e3, e5⟩ := hrow.swap (i := i1) (j := j2 + 1) (by omega) (by omega)
    have g1 : i1 < n := by omega
    have g2 : (j2 : Int) + 1 < n := by omega
    have g3 : (0 : Int) ≤ (j2 : Int) + 1 := by omega
    have g4 : ((j2 : Int) + 1).toNat = j2 + 1 := by omega
    refine L_regT mixed [0, 1, 10, 11] (by kernel_rfl) (fun K hK => ?_)
    simp [g1, g2, g3, g4, hx, hy, e1, e2]
    apply hK; clear hK K
    refine L_reg [0, 1, 10, 11] (fun K hK => ?_)
    simp [wrap_i64 (a := (i1 : Int) + 1) (by omega)]
    apply hK; clear hK K
    refine L_reg [0, 1, 10, 11] (fun K hK => ?_)
    simp [wrap_i64 (a := (j2 : Int)) (by omega)]
    apply hK; clear hK K
    have w0 := sw_i (c := d) (i := i1) (j := j2 + 1) (by omega) (by omega)
    have w1 := sw_j (c := d) (i := i1) (j := j2 + 1) (by omega) (by omega)
    have w2 := fun (k : Nat) (k1 : k ≠ i1) (k2 : k ≠ j2 + 1) => sw_o (c := d) (i := i1) (j := j2 + 1) (by omega) (by omega) k1 k2
    refine L_block (L_loopV [10, 11] (fun n' vs H' => ∃ (i j : Nat) (d : List Int), n' = j + 1 - i ∧ a + 1 ≤ i ∧ i ≤ j + 1 ∧ j < b ∧ Shuf a b c d ∧ g d a = g c pv ∧ (∀ k, a < k → k < i → LOW (g d k)) ∧ (∀ k, j < k → k < b → ¬ LOW (g d k)) ∧ vs = [.int .i64 i, .int .i64 j] ∧ Rw tl r ver H' d ∧ KeepX r H H') _ [.int .i64 (i1 + 1 : Nat), .int .i64 j2] rfl ⟨i1 + 1, j2, sw d i1 (j2 + 1), rfl, by omega, by omega, by omega, hS0.trans (.swap (by omega) (by omega) (by omega)), by rw [w2 a (by omega) (by omega)]; exact hpiv, fun k k1 k2 => ?_, fun k k1 k2 => ?_, rfl, e3, e4.trans e5⟩ ?_)
    · by_cases k3 : k = i1
      · rw [k3, w0]; exact hl2
      · rw [w2 k k3 (by omega)]; exact hRu k k1 (by omega)
    · by_cases k3 : k = j2 + 1
      · rw [k3, w1]; exact hl1
      · rw [w2 k (by omega) k3]; exact hRd k (by omega) k2
    clear w0 w1 w2 e1 e2 e3 e5 hx hy hl1 hl2 hsu hsd hRu hRd hne hrow e4 hS0 hpiv hdl hdD hCk ha0 hdDa hLo hHi g1 g2 g3 g4 hr
    clear H4 H5
    clear d
    clear H1
    rintro _ _ H1 ⟨i, j, d, rfl, hi, hij0, hjb, hS, hpiv, hLo, hHi, rfl, hrow, hK⟩
    have hdl : d.length = n := by rw [hS.len]; exact hn
    have hdD := hD.perm hS.1
    have hCk := hC.keep hK
    have ha0 := hrow.ld (i := a) (by omega)
    rw [hpiv] at ha0
    have hdDa : D (g c pv) := by rw [← hpiv]; exact hdD a (by omega)
    refine L_block ?_
    refine L_blockR (fun e' H' => ∃ (x2 : Nat) (v : AV), i ≤ x2 ∧ x2 ≤ j + 1 ∧ (∀ k, a < k → k < x2 → LOW (g d k)) ∧ (x2 ≤ j → ¬ LOW (g d x2)) ∧ e' = [(0, SV sb r 0 n ver), (1, .int .i64 a), (10, .int .i64 (x2 : Nat)), (11, .int .i64 (j : Nat)), (112, v)] ∧ H1 = H') (L_loopV [10] (fun n' vs H' => ∃ x2 : Nat, n' = j + 1 - x2 ∧ i ≤ x2 ∧ x2 ≤ j + 1 ∧ (∀ k, a < k → k < x2 → LOW (g d k)) ∧ vs = [.int .i64 x2] ∧ H1 = H') _ [.int .i64 i] rfl ⟨i, rfl, by omega, by omega, hLo, rfl, rfl⟩ ?_) ?_
    · rintro n' _ _ ⟨x2, rfl, h1, h2, hR, rfl, rfl⟩
      by_cases hij : x2 ≤ j
      · have hx := hrow.ld (i := x2) (by omega)
        have g1 : x2 < n := by omega
        refine L_regT mixed [0, 1, 10, 11, 112] (by kernel_rfl) (fun K hK => ?_)
        simp [okFn_low, hij, g1, ga, hx, ha0]
        refine exC_mk (fun Q hQ => hCk.2 H1 (.refl _ _) _ _ (hdD x2 (by omega)) hdDa Q hQ) ?_
        simp [pickV]
        apply hK; clear hK K
        have hc := hlow (g d x2)
        by_cases hL : LOW (g d x2)
        · refine L_true (by first | simpa using hc.1 hL | simpa using hc.2 hL) ?_
          refine L_block ?_
          refine L_reg [0, 1, 10, 11] (fun K hK => ?_)
          simp [wrap_i64 (a := (x2 : Int) + 1) (by omega)]
          apply hK; clear hK K
          refine ⟨j + 1 - (x2 + 1), [.int .i64 (x2 + 1 : Nat)], by omega, by simp, x2 + 1, rfl, by omega, by omega, fun k k1 k2 => ?_, rfl, rfl⟩
          by_cases k3 : k = x2
          · rw [k3]; exact hL
          · exact hR k k1 (by omega)
        · refine L_false (by first | simpa using hc.1 hL | simpa using hc.2 hL) (L_exit ?_)
          exact ⟨x2, _, h1, h2, hR, fun _ => hL, rfl, rfl⟩
      · refine L_regT mixed [0, 1, 10, 11, 112] (by kernel_rfl) (fun K hK => ?_)
        simp [pickV, hij]
        apply hK; clear hK K
        refine L_false (by simp) (L_exit ?_)
        exact ⟨x2, _, h1, h2, hR, fun h => absurd h hij, rfl, rfl⟩
    rintro _ _ ⟨i3, vu, h1u, h2u, hRu, hsu, rfl, rfl⟩
    refine L_blockR (fun e' H' => ∃ (x2 : Nat) (v : AV), x2 ≤ j ∧ i3 ≤ x2 + 1 ∧ (∀ k, x2 < k → k < b → ¬ LOW (g d k)) ∧ (i3 ≤ x2 → LOW (g d x2)) ∧ e' = [(0, SV sb r 0 n ver), (1, .int .i64 a), (10, .int .i64 (i3 : Nat)), (11, .int .i64 (x2 : Nat)), (112, vu), (129, v)] ∧ H1 = H') (L_loopV [11] (fun n' vs H' => ∃ x2 : Nat, n' = x2 + 1 - i3 ∧ x2 ≤ j ∧ i3 ≤ x2 + 1 ∧ (∀ k, x2 < k → k < b → ¬ LOW (g d k)) ∧ vs = [.int .i64 x2] ∧ H1 = H') _ [.int .i64 j] rfl ⟨j, rfl, by omega, by omega, hHi, rfl, rfl⟩ ?_) ?_
    · rintro n' _ _ ⟨x2, rfl, h1, h2, hR, rfl, rfl⟩
      by_cases hij : i3 ≤ x2
      · have hx := hrow.ld (i := x2) (by omega)
        have g1 : x2 < n := by omega
        refine L_regT mixed [0, 1, 10, 11, 112, 129] (by kernel_rfl) (fun K hK => ?_)
        simp [okFn_low, hij, g1, ga, hx, ha0]
        refine exC_mk (fun Q hQ => hCk.2 H1 (.refl _ _) _ _ (hdD x2 (by omega)) hdDa Q hQ) ?_
        simp [pickV]
        apply hK; clear hK K
        have hc := hlow (g d x2)
        by_cases hL : LOW (g d x2)
        · refine L_false (by first | simpa using hc.1 hL | simpa using hc.2 hL) (L_exit ?_)
          exact ⟨x2, _, h1, h2, hR, fun _ => hL, rfl, rfl⟩
        · refine L_true (by first | simpa using hc.1 hL | simpa using hc.2 hL) ?_
          refine L_block ?_
          obtain ⟨x3, rfl⟩ : ∃ x3, x2 = x3 + 1 := ⟨x2 - 1, by omega⟩
          refine L_reg [0, 1, 10, 11, 112] (fun K hK => ?_)
          simp [wrap_i64 (a := (x3 : Int)) (by omega)]
          apply hK; clear hK K
          refine ⟨x3 + 1 - i3, [.int .i64 (x3 : Nat)], by omega, by simp, x3, rfl, by omega, by omega, fun k k1 k2 => ?_, rfl, rfl⟩
          by_cases k3 : k = x3 + 1
          · rw [k3]; exact hL
          · exact hR k (by omega) k2
      · refine L_regT mixed [0, 1, 10, 11, 112, 129] (by kernel_rfl) (fun K hK => ?_)
        simp [pickV, hij]
        apply hK; clear hK K
        refine L_false (by simp) (L_exit ?_)
        exact ⟨x2, _, h1, h2, hR, fun h => absurd h hij, rfl, rfl⟩
    rintro _ _ ⟨j3, vd, h1d, h2d, hRd, hsd, rfl, rfl⟩
    refine L_reg [0, 1, 10, 11, 134] (fun K hK => ?_)
    simp
    apply hK; clear hK K
    refine L_dec (j3 < i3) (by simp) (fun hlt => L_exit ?_) (fun hge => ?_)
    · have e : i3 = j3 + 1 := by omega
      obtain ⟨f1, f2, f3⟩ := part_fin (D := κ) hLd (by omega) (show a ≤ j3 by omega) (by omega) hS hpiv (by rw [← e]; exact hRu) hRd
      have hx := hrow.ld (i := j3) (by omega)
      obtain ⟨H4, H5, e1, e2, e3, e5⟩ := hrow.swap (i := j3) (j := a) (by omega) (by omega)
      rw [hpiv] at e1
      have g1 : j3 < n := by omega
      refine L_regT mixed [11] (by kernel_rfl) (fun K hK => ?_)
      simp [g1, ga, hx, ha0, e1, e2]
      apply hK; clear hK K
      refine L_reg [8, 9] (fun K hK => ?_)
      simp
      apply hK; clear hK K
      exact L_ret ⟨.inr rfl, _, rfl, h H5 _ j3 false (by omega) (by omega) f1 f2 f3 e3 (hK.trans e5)⟩
    · have hl1 := hsu (by omega)
      have hl2 := hsd (by omega)
      have hne : i3 ≠ j3 := by rintro rfl; exact hl1 hl2
      obtain ⟨j2, rfl⟩ : ∃ j2, j3 = j2 + 1 := ⟨j3 - 1, by omega⟩
      have hx := hrow.ld (i := i3) (by omega)
      have hy := hrow.ld (i := j2 + 1) (by omega)
      obtain ⟨H2, H3, e1, e2, e3, e4⟩ := hrow.swap (i := i3) (j := j2 + 1) (by omega) (by omega)
      have g1 : i3 < n := by omega
      have g2 : (j2 : Int) + 1 < n := by omega
      have g3 : (0 : Int) ≤ (j2 : Int) + 1 := by omega
      have g4 : ((j2 : Int) + 1).toNat = j2 + 1 := by omega
      refine L_regT mixed [0, 1, 10, 11] (by kernel_rfl) (fun K hK => ?_)
      simp [g1, g2, g3, g4, hx, hy, e1, e2]
      apply hK; clear hK K
      refine L_reg [0, 1, 10, 11] (fun K hK => ?_)
      simp [wrap_i64 (a := (i3 : Int) + 1) (by omega)]
      apply hK; clear hK K
      refine L_reg [0, 1, 10, 11] (fun K hK => ?_)
      simp [wrap_i64 (a := (j2 : Int)) (by omega)]
      apply hK; clear hK K
      have w0 := sw_i (c := d) (i := i3) (j := j2 + 1) (by omega) (by omega)
      have w1 := sw_j (c := d) (i := i3) (j := j2 + 1) (by omega) (by omega)
      have w2 := fun (k : Nat) (k1 : k ≠ i3) (k2 : k ≠ j2 + 1) => sw_o (c := d) (i := i3) (j := j2 + 1) (by omega) (by omega) k1 k2
      refine ⟨j2 + 1 - (i3 + 1), [.int .i64 (i3 + 1 : Nat), .int .i64 j2], by omega, by simp, i3 + 1, j2, _, rfl, by omega, by omega, by omega, hS.trans (.swap (by omega) (by omega) (by omega)), by rw [w2 a (by omega) (by omega)]; exact hpiv, fun k k1 k2 => ?_, fun k k1 k2 => ?_, rfl, e3, hK.trans e4⟩
      · by_cases k3 : k = i3
        · rw [k3, w0]; exact hl2
        · rw [w2 k k3 (by omega)]; exact hRu k k1 (by omega)
      · by_cases k3 : k = j2 + 1
        · rw [k3, w1]; exact hl1
        · rw [w2 k (by omega) k3]; exact hRd k (by omega) k2
end Go.Proofs.Ytpfkioakjmpimaa.Ord

/- Sorting numbers (Heap). -/
namespace Go.Proofs.Ytpfkioakjmpimaa.Ord
open Go Go.Proofs.Ytpfkioakjmpimaa.AX Go.Proofs.Ytpfkioakjmpimaa
variable {sb : Bool} {tl : List AV}

set_option maxRecDepth 100000 in
theorem siftDown_ac (D : Int → Prop) (κ : Int → Int) (r ver lo hi fi : Nat) (c : List Int) (H : AH) (Q : AV → AH → Prop) (hC : CmpO D κ r H) (hr : Rw tl r ver H c) (hD : All D c) (hl : c.length ≤ 1000000) (hb : fi + hi ≤ c.length) (hlo : lo ≤ hi) (hH : ∀ i, lo < i → Hp κ fi hi c i)
    (h : ∀ (H' : AH) (m : List Int), Shuf (fi + lo) (fi + hi) c m → (∀ i, lo ≤ i → Hp κ fi hi m i) → Rw tl r ver H' m → KeepX r H H' → Q (.tuple []) H') : AC Try.prog 123 [SV sb r 0 c.length ver, .int .i64 lo, .int .i64 hi, .int .i64 fi] H Q := by
  refine L_body 76 Try.func123 rfl rfl ?_
  refine L_reg [0, 2, 3, 8] (fun K hK => ?_)
  simp
  apply hK; clear hK K
  generalize hn : c.length = n at *
  refine L_block (L_loopV [8] (fun k vs H' => ∃ (ro : Nat) (d : List Int), k = hi - ro ∧ lo ≤ ro ∧ ro ≤ hi ∧ Shuf (fi + lo) (fi + hi) c d ∧ (∀ i, lo ≤ i → i ≠ ro → Hp κ fi hi d i) ∧ (∀ i, lo ≤ i → ro = 2 * i + 1 ∨ ro = 2 * i + 2 → ∀ q, q = 2 * ro + 1 ∨ q = 2 * ro + 2 → q < hi → κ (g d (fi + q)) ≤ κ (g d (fi + i))) ∧ vs = [.int .i64 ro] ∧ Rw tl r ver H' d ∧ KeepX r H H') _ [.int .i64 lo] rfl ⟨lo, c, rfl, by omega, by omega, .refl _ _ _, fun i h1 h2 => hH i (by omega), fun i h1 h2 => by omega, rfl, hr, .refl r H⟩ ?_)
  rintro _ _ H1 ⟨ro, d, rfl, hro, hroh, hS, h1, h2, rfl, hrow, hK⟩
  have hdl : d.length = n := by rw [hS.len]; exact hn
  have hdD := hD.perm hS.1
  have hCk := hC.keep hK
  refine L_block ?_
  obtain ⟨ch, hch⟩ : ∃ ch : Nat, 2 * (ro : Int) + 1 = ch := ⟨2 * ro + 1, by omega⟩
  refine L_reg [0, 2, 3, 8, 9] (fun K hK => ?_)
  simp [wrap_i64 (a := 2 * (ro : Int)) (by omega), hch, wrap_i64 (a := (ch : Int)) (by omega)]
  apply hK; clear hK K
  refine L_reg [0, 2, 3, 8, 9, 16] (fun K hK => ?_)
  simp
  apply hK; clear hK K
  refine L_dec (hi ≤ ch) (by simp) (fun hge => L_exit ?_) (fun hlt => ?_)
  · refine ⟨.inl rfl, _, rfl, h H1 d hS (fun i hi1 => ?_) hrow hK⟩
    by_cases e : i = ro
    · subst e; intro c hc hch; omega
    · exact h1 i hi1 e
  obtain ⟨ix, hix⟩ : ∃ ix : Nat, (fi : Int) + ch = ix := ⟨fi + ch, by omega⟩
  have hixn : ix = fi + ch := by omega
  refine L_regT mixed [0, 2, 3, 8, 9, 36] (by kernel_rfl) (fun K hK0 => ?_)
  have hK2 : ∀ t : Bool, (t = true → ch + 1 < hi ∧ κ (g d (fi + ch)) < κ (g d (fi + (ch + 1)))) → (t = false → ch + 1 < hi → κ (g d (fi + (ch + 1))) ≤ κ (g d (fi + ch))) → K [(0, SV sb r 0 n ver), (2, .int .i64 hi), (3, .int .i64 fi), (8, .int .i64 ro), (9, .int .i64 ch), (36, .bool t)] H1 := by
    intro t ht1 ht2
    refine hK0 _ _ ?_
    clear hK0 K
    refine L_condK [0, 2, 3, 8, 9] (fun e' H' => ∃ c2 : Nat, (c2 = ch ∨ c2 = ch + 1) ∧ c2 < hi ∧ (∀ q, q = ch ∨ q = ch + 1 → q < hi → κ (g d (fi + q)) ≤ κ (g d (fi + c2))) ∧ e' = [(0, SV sb r 0 n ver), (2, .int .i64 hi), (3, .int .i64 fi), (8, .int .i64 ro), (9, .int .i64 (c2 : Nat))] ∧ H1 = H') (t := t) rfl (fun ht => ?_) (fun ht => ?_) ?_
    · obtain ⟨g1, g2⟩ := ht1 ht
      refine L_reg [0, 2, 3, 8, 9] (fun K hK => ?_)
      simp [wrap_i64 (a := (ch : Int) + 1) (by omega)]
      apply hK; clear hK K
      refine ⟨ch + 1, .inr rfl, g1, fun q hq1 hq2 => ?_, by simp, rfl⟩
      rcases hq1 with rfl | rfl <;> omega
    · refine ⟨ch, .inl rfl, by omega, fun q hq1 hq2 => ?_, by simp, rfl⟩
      rcases hq1 with rfl | rfl
      · omega
      · exact ht2 ht hq2
    · rintro _ _ ⟨c2, hc2, hc2h, hbig, rfl, rfl⟩
      clear ht1 ht2
      have hc2ro : c2 = 2 * ro + 1 ∨ c2 = 2 * ro + 2 := by omega
      obtain ⟨ia, hia⟩ : ∃ ix : Nat, (fi : Int) + ro = ix := ⟨fi + ro, by omega⟩
      obtain ⟨ib, hib⟩ : ∃ ix : Nat, (fi : Int) + c2 = ix := ⟨fi + c2, by omega⟩
      have hian : ia = fi + ro := by omega
      have hibn : ib = fi + c2 := by omega
      have hx := hrow.ld (i := ia) (by omega)
      have hy := hrow.ld (i := ib) (by omega)
      have ga : ia < n := by omega
      have gb : ib < n := by omega
      refine L_regT mixed [0, 2, 3, 8, 9, 52] (by kernel_rfl) (fun K hK => ?_)
      simp [okFn_low, hia, hib, ga, gb, hx, hy, wrap_i64 (a := (ia : Int)) (by omega), wrap_i64 (a := (ib : Int)) (by omega)]
      refine exC_mk (fun Q hQ => hCk.2 H1 (.refl _ _) _ _ (hdD ia (by omega)) (hdD ib (by omega)) Q hQ) ?_
      simp
      apply hK; clear hK K
      by_cases hless : κ (g d ia) < κ (g d ib)
      · refine L_false (by simpa using cmpS_neg.2 hless) ?_
        obtain ⟨H2, H3, e1, e2, e3, e4⟩ := hrow.swap (i := ia) (j := ib) (by omega) (by omega)
        refine L_regT mixed [0, 2, 3, 9] (by kernel_rfl) (fun K hK => ?_)
        simp [hia, hib, ga, gb, hx, hy, e1, e2, wrap_i64 (a := (ia : Int)) (by omega), wrap_i64 (a := (ib : Int)) (by omega)]
        apply hK; clear hK K
        refine L_reg [0, 2, 3, 8] (fun K hK => ?_)
        simp
        apply hK; clear hK K
        have w0 := sw_i (c := d) (i := ia) (j := ib) (by omega) (by omega)
        have w1 := sw_j (c := d) (i := ia) (j := ib) (by omega) (by omega)
        have w2 := fun (k : Nat) (k1 : k ≠ ia) (k2 : k ≠ ib) => sw_o (c := d) (i := ia) (j := ib) (by omega) (by omega) k1 k2
        subst hian
        subst hibn
        have v0 : g (sw d (fi + ro) (fi + c2)) (fi + ro) = g d (fi + c2) := w0
        have v1 : g (sw d (fi + ro) (fi + c2)) (fi + c2) = g d (fi + ro) := w1
        have v2 : ∀ k, k ≠ ro → k ≠ c2 → g (sw d (fi + ro) (fi + c2)) (fi + k) = g d (fi + k) := fun k k1 k2 => w2 _ (by omega) (by omega)
        refine ⟨hi - c2, [.int .i64 (c2 : Nat)], by omega, by simp, c2, _, rfl, by omega, by omega, hS.trans (.swap (by omega) (by omega) (by omega)), fun i i1 i2 q q1 q2 => ?_, fun i i1 i2 q q1 q2 => ?_, rfl, e3, hK.trans e4⟩
        · by_cases e : i = ro
          · subst e
            rw [v0]
            by_cases q3 : q = c2
            · rw [q3, v1]; omega
            · rw [v2 q (by omega) q3]; exact hbig q (by omega) q2
          · have h3 := h1 i i1 e q q1 q2
            rw [v2 i e i2]
            by_cases q3 : q = ro
            · rw [q3, v0]; exact h2 i i1 (by omega) c2 hc2ro hc2h
            · rw [v2 q q3 (by omega)]; exact h3
        · have : i = ro := by omega
          subst this
          rw [v0, v2 q (by omega) (by omega)]
          exact h1 c2 (by omega) (by omega) q q1 q2
      · have hneg : ¬ cmpS (κ (g d ia)) (κ (g d ib)) < 0 := fun h => hless (cmpS_neg.1 h)
        refine L_true (by simpa using hneg) ?_
        refine L_ret ⟨.inr rfl, _, rfl, h H1 d hS (fun i hi1 => ?_) hrow hK⟩
        by_cases e : i = ro
        · subst e
          intro q q1 q2
          have := hbig q (by omega) q2
          rw [hian, hibn] at hless
          omega
        · exact h1 i hi1 e
  by_cases hc1 : ch + 1 < hi
  · have hx := hrow.ld (i := ix) (by omega)
    have hy := hrow.ld (i := ix + 1) (by omega)
    have g1 : ix < n := by omega
    have g2 : (ix : Int) + 1 < n := by omega
    have g3 : (0 : Int) ≤ (ix : Int) + 1 := by omega
    have g4 : ((ix : Int) + 1).toNat = ix + 1 := by omega
    have g5 : (ch : Int) + 1 < hi := by omega
    simp [okFn_low, hix, g1, g2, g3, g4, g5, hx, hy, wrap_i64 (a := (ch : Int) + 1) (by omega), wrap_i64 (a := (ix : Int)) (by omega), wrap_i64 (a := (ix : Int) + 1) (by omega)]
    refine exC_mk (fun Q hQ => hCk.2 H1 (.refl _ _) _ _ (hdD ix (by omega)) (hdD (ix + 1) (by omega)) Q hQ) ?_
    simp [pickV]
    refine hK2 _ (fun ht => ⟨hc1, ?_⟩) (fun ht _ => ?_)
    · have := cmpS_neg.1 (of_decide_eq_true ht)
      rw [hixn] at this; exact this
    · have : ¬ κ (g d ix) < κ (g d (ix + 1)) := fun h => (of_decide_eq_false ht) (cmpS_neg.2 h)
      rw [hixn] at this
      exact Int.not_lt.1 this
  · have g5 : ¬ (ch : Int) + 1 < hi := by omega
    simp [pickV, g5, wrap_i64 (a := (ch : Int) + 1) (by omega)]
    exact hK2 false (fun h => by cases h) (fun _ h => absurd h hc1)
end Go.Proofs.Ytpfkioakjmpimaa.Ord

/- Sorting numbers (Heap2). -/
namespace Go.Proofs.Ytpfkioakjmpimaa.Ord
open Go Go.Proofs.Ytpfkioakjmpimaa.AX Go.Proofs.Ytpfkioakjmpimaa
variable {sb : Bool} {tl : List AV}

set_option maxRecDepth 100000 in
theorem heapSort_ac (D : Int → Prop) (κ : Int → Int) (r ver a l : Nat) (c : List Int) (H : AH) (Q : AV → AH → Prop) (hC : CmpO D κ r H) (hr : Rw tl r ver H c) (hD : All D c) (hl : c.length ≤ 1000000) (hb : a + l ≤ c.length) (hl1 : 1 ≤ l)
    (h : ∀ (H' : AH) (m : List Int), Shuf a (a + l) c m → Srt κ a (a + l) m → Rw tl r ver H' m → KeepX r H H' → Q (.tuple []) H') : AC Try.prog 113 [SV sb r 0 c.length ver, .int .i64 a, .int .i64 (a + l : Nat)] H Q := by
  refine L_body 56 Try.func113 rfl rfl ?_
  refine L_reg [0, 1, 2, 6] (fun K hK => ?_)
  simp
  apply hK; clear hK K
  refine L_reg [0, 1, 2, 6, 7] (fun K hK => ?_)
  simp
  apply hK; clear hK K
  refine L_reg [0, 6, 7, 8] (fun K hK => ?_)
  simp [show ((a : Int) + l - a) = l by omega, wrap_i64 (a := (l : Int)) (by omega)]
  apply hK; clear hK K
  obtain ⟨l0, rfl⟩ : ∃ l0, l = l0 + 1 := ⟨l - 1, by omega⟩
  generalize hL : l0 + 1 = L at *
  have hdiv : ((l0 : Int)).tdiv 2 = ((l0 / 2 : Nat) : Int) := by rw [Int.tdiv_eq_ediv_of_nonneg (by omega)]; rfl
  obtain ⟨q, hq⟩ : ∃ q, q = l0 / 2 := ⟨_, rfl⟩
  rw [← hq] at hdiv
  have hL1 : (L : Int) - 1 = l0 := by omega
  refine L_reg [0, 6, 7, 8, 9] (fun K hK => ?_)
  simp [hL1, hdiv, wrap_i64 (a := (l0 : Int)) (by omega), wrap_i64 (a := (q : Int)) (by omega)]
  apply hK; clear hK K
  generalize hn : c.length = n at *
  refine L_blockR (fun e' H' => ∃ (d : List Int) (v11 v21 : AV), Shuf a (a + L) c d ∧ (∀ i, Hp κ a L d i) ∧ Rw tl r ver H' d ∧ KeepX r H H' ∧ e' = [(0, SV sb r 0 n ver), (6, .int .i64 a), (7, .int .i64 0), (8, .int .i64 L), (9, v11), (19, v21)]) (L_loopV [9] (fun k vs H' => ∃ d : List Int, k ≤ q + 1 ∧ Shuf a (a + L) c d ∧ (∀ i, k ≤ i → Hp κ a L d i) ∧ vs = [.int .i64 ((k : Int) - 1)] ∧ Rw tl r ver H' d ∧ KeepX r H H') (q + 1) [.int .i64 q] rfl ⟨c, by omega, .refl _ _ _, fun i hi q1 q2 q3 => by omega, by simp, hr, .refl r H⟩ ?_) ?_
  · rintro k _ H1 ⟨d, hk, hS, hH, rfl, hrow, hK⟩
    have hdl : d.length = n := by rw [hS.len]; exact hn
    cases k with
    | zero =>
      refine L_reg [0, 6, 7, 8, 9, 19] (fun K hK => ?_)
      simp
      apply hK; clear hK K
      refine L_false (by simp) (L_exit ?_)
      exact ⟨d, _, _, hS, fun i => hH i (by omega), hrow, hK, rfl⟩
    | succ k =>
      have hk1 : (k : Int) + 1 - 1 = k := by omega
      refine L_reg [0, 6, 7, 8, 9, 19] (fun K hK => ?_)
      simp
      apply hK; clear hK K
      refine L_true (by simp) ?_
      refine L_block ?_
      refine L_reg [0, 6, 7, 8, 9] (fun K hK0 => ?_)
      simp [okFn_low]
      have := siftDown_ac (sb := sb) D κ r ver k L a d H1 (fun v H' => K [(0, SV sb r 0 n ver), (6, .int .i64 a), (7, .int .i64 0), (8, .int .i64 L), (9, .int .i64 k)] H') (hC.keep hK) hrow (hD.perm hS.1) (by omega) (by omega) (by omega) (fun i hi => hH i (by omega)) (fun H2 m hS2 hH2 hr2 hK2 => ?_)
      · rw [hdl] at this; exact this
      apply hK0; clear hK0 K
      refine L_reg [0, 6, 7, 8, 9] (fun K hK => ?_)
      simp [wrap_i64 (a := (k : Int) - 1) (by omega)]
      apply hK; clear hK K
      exact ⟨k, [.int .i64 ((k : Int) - 1)], by omega, by simp, m, by omega, hS.trans (hS2.wide (by omega) (by omega)), fun i hi => hH2 i hi, rfl, hr2, hK.trans hK2⟩
  rintro _ H1 ⟨d, v11, v21, hS, hH, hrow, hK, rfl⟩
  refine L_reg [0, 6, 7, 10] (fun K hK => ?_)
  simp [hL1, wrap_i64 (a := (l0 : Int)) (by omega)]
  apply hK; clear hK K
  refine L_block (L_loopV [10] (fun k vs H' => ∃ d : List Int, k ≤ L ∧ Shuf a (a + L) c d ∧ (∀ i, Hp κ a k d i) ∧ (∀ p q, p < q → k ≤ q → q < L → κ (g d (a + p)) ≤ κ (g d (a + q))) ∧ vs = [.int .i64 ((k : Int) - 1)] ∧ Rw tl r ver H' d ∧ KeepX r H H') L [.int .i64 l0] rfl ⟨d, Nat.le_refl _, hS, hH, fun p q h1 h2 h3 => by omega, by rw [hL1], hrow, hK⟩ ?_)
  clear hS hH hrow hK d H1
  rintro k _ H1 ⟨d, hk, hS, hH, hT, rfl, hrow, hK⟩
  have hdl : d.length = n := by rw [hS.len]; exact hn
  cases k with
  | zero =>
    refine L_reg [0, 6, 7, 10, 30] (fun K hK => ?_)
    simp
    apply hK; clear hK K
    refine L_false (by simp) (L_exit ?_)
    refine ⟨.inl rfl, _, rfl, h H1 d hS (fun p q h1 h2 h3 => ?_) hrow hK⟩
    have := hT (p - a) (q - a) (by omega) (by omega) (by omega)
    rw [show a + (p - a) = p by omega, show a + (q - a) = q by omega] at this
    exact this
  | succ k =>
    have hk1 : (k : Int) + 1 - 1 = k := by omega
    refine L_reg [0, 6, 7, 10, 30] (fun K hK => ?_)
    simp
    apply hK; clear hK K
    refine L_true (by simp) ?_
    refine L_block ?_
    obtain ⟨ib, hib⟩ : ∃ ix : Nat, (a : Int) + k = ix := ⟨a + k, by omega⟩
    have hibn : ib = a + k := by omega
    have hx := hrow.ld (i := a) (by omega)
    have hy := hrow.ld (i := ib) (by omega)
    have ga : a < n := by omega
    have gb : ib < n := by omega
    obtain ⟨H2, H3, e1, e2, e3, e4⟩ := hrow.swap (i := a) (j := ib) (by omega) (by omega)
    refine L_regT mixed [0, 6, 7, 10] (by kernel_rfl) (fun K hK => ?_)
    simp [hib, ga, gb, hx, hy, e1, e2, wrap_i64 (a := (ib : Int)) (by omega)]
    apply hK; clear hK K
    subst hibn
    have w0 := sw_i (c := d) (i := a) (j := a + k) (by omega) (by omega)
    have w1 := sw_j (c := d) (i := a) (j := a + k) (by omega) (by omega)
    have w2 := fun (k' : Nat) (k1 : k' ≠ a) (k2 : k' ≠ a + k) => sw_o (c := d) (i := a) (j := a + k) (by omega) (by omega) k1 k2
    have hmax := heap_max hH
    have hS3 : Shuf a (a + L) c (sw d a (a + k)) := hS.trans (.swap (by omega) (by omega) (by omega))
    have hl3 : (sw d a (a + k)).length = n := by rw [hS3.len]; exact hn
    have hK3 := hK.trans e4
    have hH3 : ∀ i, 0 < i → Hp κ a k (sw d a (a + k)) i := by
      intro i hi q' q1 q2
      rw [w2 _ (by omega) (by omega), w2 _ (by omega) (by omega)]
      exact hH i q' q1 (by omega)
    have hT3 : ∀ p q, p < q → k ≤ q → q < L → κ (g (sw d a (a + k)) (a + p)) ≤ κ (g (sw d a (a + k)) (a + q)) := by
      intro p q' h1 h2 h3
      by_cases e : q' = k
      · subst e
        rw [w1]
        by_cases e0 : p = 0
        · subst e0
          have := hmax q' (by omega)
          rw [Nat.add_zero] at *
          rw [w0]
          exact this
        · rw [w2 _ (by omega) (by omega)]
          exact hmax p (by omega)
      · rw [w2 (a + q') (by omega) (by omega)]
        by_cases e0 : p = 0
        · subst e0
          rw [Nat.add_zero, w0]
          exact hT k q' (by omega) (by omega) h3
        · by_cases e1 : p = k
          · subst e1
            rw [w1]
            exact hT 0 q' (by omega) (by omega) h3
          · rw [w2 (a + p) (by omega) (by omega)]
            exact hT p q' h1 (by omega) h3
    refine L_reg [0, 6, 7, 10] (fun K hK0 => ?_)
    simp [okFn_low]
    have := siftDown_ac (sb := sb) D κ r ver 0 k a (sw d a (a + k)) H3 (fun v H' => K [(0, SV sb r 0 n ver), (6, .int .i64 a), (7, .int .i64 0), (10, .int .i64 k)] H') (hC.keep hK3) e3 (hD.perm hS3.1) (by omega) (by omega) (by omega) hH3 (fun H4 m hS4 hH4 hr4 hK4 => ?_)
    · rw [hl3] at this; exact this
    apply hK0; clear hK0 K
    refine L_reg [0, 6, 7, 10] (fun K hK => ?_)
    simp [wrap_i64 (a := (k : Int) - 1) (by omega)]
    apply hK; clear hK K
    refine ⟨k, [.int .i64 ((k : Int) - 1)], by omega, by simp, m, by omega, hS3.trans (hS4.wide (by omega) (by omega)), fun i => hH4 i (by omega), fun p q' h1 h2 h3 => ?_, rfl, hr4, hK3.trans hK4⟩
    rw [hS4.2 (a + q') (by omega)]
    by_cases hp : p < k
    · have := hS4.all (by omega) (p := fun x => κ x ≤ κ (g (sw d a (a + k)) (a + q'))) (fun k' h4 h5 => by
        have := hT3 (k' - a) q' (by omega) h2 h3
        rw [show a + (k' - a) = k' by omega] at this
        exact this) (a + p) (by omega) (by omega)
      exact this
    · rw [hS4.2 (a + p) (by omega)]
      exact hT3 p q' h1 h2 h3
end Go.Proofs.Ytpfkioakjmpimaa.Ord

/- Sorting numbers (Brk). -/
namespace Go.Proofs.Ytpfkioakjmpimaa.Ord
open Go Go.Proofs.Ytpfkioakjmpimaa.AX Go.Proofs.Ytpfkioakjmpimaa
variable {sb : Bool} {tl : List AV}

set_option maxRecDepth 100000 in
theorem break_ac (r ver a l : Nat) (c : List Int) (H : AH) (Q : AV → AH → Prop) (hr : Rw tl r ver H c) (hrl : r < H.length) (hlen : c.length ≤ 127) (hl : 12 < l) (hb : a + l ≤ c.length)
    (h : ∀ (H' : AH) (m : List Int), Shuf a (a + l) c m → Rw tl r ver H' m → KeepX r H H' → Q (.tuple []) H') : AC Try.prog 114 [SV sb r 0 c.length ver, .int .i64 a, .int .i64 (a + l : Nat)] H Q := by
  refine L_body 65 Try.func114 rfl rfl ?_
  have hq : ((l : Int)).tdiv 4 = ((l / 4 : Nat) : Int) := by rw [Int.tdiv_eq_ediv_of_nonneg (by omega)]; rfl
  obtain ⟨q, hq0⟩ : ∃ q, q = l / 4 := ⟨_, rfl⟩
  rw [← hq0] at hq
  obtain ⟨j0, hj0⟩ : ∃ i : Nat, (a : Int) + (q : Int) * 2 = i := ⟨a + q * 2, by omega⟩
  obtain ⟨i0, hi0⟩ : ∃ i : Nat, (j0 : Int) - 1 = i := ⟨j0 - 1, by omega⟩
  generalize hn : c.length = n at *
  refine L_reg [0, 1, 6] (fun K hK => ?_)
  simp [show ((a : Int) + l - a) = l by omega, wrap_i64 (a := (l : Int)) (by omega)]
  apply hK; clear hK K
  refine L_reg [0, 1, 6, 15] (fun K hK => ?_)
  simp
  apply hK; clear hK K
  refine L_true (by simp; omega) ?_
  have hsv : ∀ x : Int, storeV Try.prog 109 (H ++ [AObj.row [.int .u64 0] 0 0 false]) (.ptr H.length 0 0) (.int .u64 x) = some (none, H ++ [.row [.int .u64 x] 0 0 false]) := fun x => store_last sc109 (y := .int .u64 0) rfl rfl
  refine L_reg [0, 1, 6, 7] (fun K hK => ?_)
  simp [cvC l (by omega), alloc_z zt109, hsv]
  apply hK; clear hK K
  have hK1 : KeepX r H (H ++ [AObj.row [.int .u64 l] 0 0 false]) := (KeepX.refl r H).ext (.push _ _)
  have hr1 := hr.ext (.push H [AObj.row [.int .u64 l] 0 0 false])
  have hx1 : (H ++ [AObj.row [.int .u64 l] 0 0 false])[H.length]? = some (.row [.int .u64 l] 0 0 false) := by simp
  generalize H ++ [AObj.row [.int .u64 l] 0 0 false] = H1 at hK1 hr1 hx1 ⊢
  generalize hp : H.length = p at *
  have hpl := pow_len (n := l) (by omega) (by omega)
  refine L_reg [0, 1, 6, 7, 8] (fun K hK => ?_)
  simp [okFn_low]
  refine nextPow_ac l H1 _ (by omega) (by omega) ?_
  generalize 2 ^ lenN l = md at hpl ⊢
  simp
  apply hK; clear hK K
  refine L_reg [0, 1, 6, 7, 8, 9] (fun K hK => ?_)
  simp [hq, wrap_i64 (a := (q : Int)) (by omega), wrap_i64 (a := (q : Int) * 2) (by omega), hj0, wrap_i64 (a := (j0 : Int)) (by omega), hi0, wrap_i64 (a := (i0 : Int)) (by omega)]
  apply hK; clear hK K
  refine L_block (L_loopV [9] (fun k vs H' => ∃ (i : Nat) (d : List Int) (x : Int) (s : Nat), k = j0 + 2 - i ∧ i0 ≤ i ∧ i ≤ j0 + 2 ∧ Shuf a (a + l) c d ∧ vs = [.int .i64 i] ∧ Rw tl r ver H' d ∧ KeepX r H H' ∧ H'[p]? = some (.row [.int .u64 x] 0 s false)) _ [.int .i64 i0] rfl ⟨i0, c, l, 0, rfl, by omega, by omega, .refl _ _ _, rfl, hr1, hK1, hx1⟩ ?_)
  clear hr1 hK1 hx1 H1
  rintro k _ H1 ⟨i, d, x, s, rfl, hi1, hi2, hS, rfl, hrow, hK, hx⟩
  have hdl : d.length = n := by rw [hS.len]; exact hn
  refine L_reg [0, 1, 6, 7, 8, 9, 33] (fun K hK => ?_)
  simp [hq, wrap_i64 (a := (q : Int)) (by omega), wrap_i64 (a := (q : Int) * 2) (by omega), hj0, wrap_i64 (a := (j0 : Int)) (by omega), wrap_i64 (a := (j0 : Int) + 1) (by omega)]
  apply hK; clear hK K
  refine L_dec ((i : Int) ≤ j0 + 1) (by simp) (fun hlt => ?_) (fun hge => L_exit ?_)
  · refine L_block ?_
    refine L_reg [0, 1, 6, 7, 8, 9, 10] (fun K hK0 => ?_)
    simp [okFn_low]
    refine next_ac p s x H1 _ hx (fun y H2 hy hK2 => ?_)
    have hmd : IntKind.u64.wrap ((md : Int) - 1) = ((md - 1 : Nat) : Int) := by rw [wrap_u64 (by omega)]; omega
    obtain ⟨m1, hm1⟩ : ∃ m1 : Nat, md - 1 = m1 := ⟨_, rfl⟩
    rw [hm1] at hmd
    obtain ⟨z, hz, hand⟩ := and_low (P := Try.prog) (t := 83) (l := (litOp (.tmp 36) || litOp (.tmp 38))) y m1 (by omega)
    simp [hmd, hand, cvB z (by omega)]
    apply hK0; clear hK0 K
    have hrow2 : Rw tl r ver H2 d := by
      obtain ⟨s', h'⟩ := hrow
      exact ⟨s', hK2.row (by omega) h'⟩
    have hK12 : KeepX r H H2 := ⟨Nat.le_trans hK.1 hK2.1, fun j j1 j2 => by rw [hK2.2 j (by omega) (by have := hK.1; omega), hK.2 j j1 j2]⟩
    refine L_reg [0, 1, 6, 7, 8, 9, 10, 43] (fun K hK => ?_)
    simp
    apply hK; clear hK K
    refine L_condK [0, 1, 6, 7, 8, 9, 10] (fun e' H' => ∃ o : Nat, o < l ∧ e' = [(0, SV sb r 0 n ver), (1, .int .i64 a), (6, .int .i64 l), (7, .ptr p 0 0), (8, .int .u64 md), (9, .int .i64 i), (10, .int .i64 (o : Nat))] ∧ H2 = H') (t := decide (l ≤ z)) (by simp) (fun ht => ?_) (fun ht => ?_) ?_
    · have hle : l ≤ z := of_decide_eq_true ht
      obtain ⟨o, ho⟩ : ∃ o : Nat, (z : Int) - l = o := ⟨z - l, by omega⟩
      refine L_reg [0, 1, 6, 7, 8, 9, 10] (fun K hK => ?_)
      simp [ho, wrap_i64 (a := (o : Int)) (by omega)]
      apply hK; clear hK K
      exact ⟨o, by omega, by simp, rfl⟩
    · exact ⟨z, by have := of_decide_eq_false ht; omega, by simp, rfl⟩
    rintro _ _ ⟨o, hol, rfl, rfl⟩
    obtain ⟨ib, hib⟩ : ∃ ix : Nat, (a : Int) + o = ix := ⟨a + o, by omega⟩
    have h1 := hrow2.ld (i := i) (by omega)
    have h2 := hrow2.ld (i := ib) (by omega)
    have ga : i < n := by omega
    have gb : ib < n := by omega
    obtain ⟨H3, H4, e1, e2, e3, e4⟩ := hrow2.swap (i := i) (j := ib) (by omega) (by omega)
    refine L_regT mixed [0, 1, 6, 7, 8, 9] (by kernel_rfl) (fun K hK => ?_)
    simp [hib, ga, gb, h1, h2, e1, e2, wrap_i64 (a := (ib : Int)) (by omega)]
    apply hK; clear hK K
    refine L_reg [0, 1, 6, 7, 8, 9] (fun K hK => ?_)
    simp [wrap_i64 (a := (i : Int) + 1) (by omega)]
    apply hK; clear hK K
    exact ⟨j0 + 2 - (i + 1), [.int .i64 (i + 1 : Nat)], by omega, by simp, i + 1, _, y, 0, rfl, by omega, by omega, hS.trans (.swap (by omega) (by omega) (by omega)), rfl, e3, hK12.trans e4, e4.row (by omega) hy⟩
  · exact ⟨.inl rfl, _, rfl, h H1 d hS hrow hK⟩
end Go.Proofs.Ytpfkioakjmpimaa.Ord

/- Sorting numbers (Pins). -/
namespace Go.Proofs.Ytpfkioakjmpimaa.Ord
open Go Go.Proofs.Ytpfkioakjmpimaa.AX Go.Proofs.Ytpfkioakjmpimaa
variable {sb : Bool} {tl : List AV}

set_option maxRecDepth 100000 in
theorem partial_ac (D : Int → Prop) (κ : Int → Int) (r ver a b : Nat) (c : List Int) (H : AH) (Q : AV → AH → Prop) (hC : CmpO D κ r H) (hr : Rw tl r ver H c) (hD : All D c) (hl : c.length ≤ 1000000) (hab : a < b) (hb : b ≤ c.length) (hpre : 0 < a → ∀ k, a ≤ k → k < b → κ (g c (a - 1)) ≤ κ (g c k))
    (h : ∀ (H' : AH) (m : List Int) (t : Bool), Shuf a b c m → (t = true → Srt κ a b m) → Rw tl r ver H' m → KeepX r H H' → Q (.bool t) H') : AC Try.prog 117 [SV sb r 0 c.length ver, .int .i64 a, .int .i64 b] H Q := by
  refine L_body 133 Try.func117 rfl rfl ?_
  generalize hn : c.length = n at *
  refine L_reg [0, 1, 2] (fun K hK => ?_)
  simp
  apply hK; clear hK K
  refine L_reg [0, 1, 2, 7] (fun K hK => ?_)
  simp [wrap_i64 (a := (a : Int) + 1) (by omega)]
  apply hK; clear hK K
  refine L_reg [0, 1, 2, 7, 8] (fun K hK => ?_)
  simp
  apply hK; clear hK K
  refine L_block (L_loopV [7, 8] (fun k vs H' => ∃ (i jj : Nat) (d : List Int), k = 5 - jj ∧ jj ≤ 5 ∧ a ≤ i ∧ i + 1 ≤ b ∧ Shuf a b c d ∧ Srt κ a (i + 1) d ∧ vs = [.int .i64 ((i : Int) + 1), .int .i64 jj] ∧ Rw tl r ver H' d ∧ KeepX r H H') _ [.int .i64 ((a : Int) + 1), .int .i64 (0 : Nat)] rfl ⟨a, 0, c, rfl, by omega, by omega, by omega, .refl _ _ _, fun p q h1 h2 h3 => by omega, rfl, hr, .refl r H⟩ ?_)
  rintro k _ H1 ⟨i, jj, d, rfl, hjj, hai, hib, hS, hso, rfl, hrow, hK⟩
  refine L_reg [0, 1, 2, 7, 8, 14] (fun K hK => ?_)
  simp
  apply hK; clear hK K
  refine L_dec ((jj : Int) < 5) (by simp) (fun hlt => ?_) (fun hge => L_exit ?_)
  · refine L_block ?_
    have hjl : jj < 5 := by omega
    have hdl : d.length = n := by rw [hS.len]; exact hn
    have hdD := hD.perm hS.1
    have hCk := hC.keep hK
    refine L_blockR (fun e' H' => ∃ (i2 : Nat) (v16 v : AV), i ≤ i2 ∧ i2 + 1 ≤ b ∧ Srt κ a (i2 + 1) d ∧ (i2 + 1 < b → κ (g d (i2 + 1)) < κ (g d i2)) ∧ e' = [(0, SV sb r 0 n ver), (1, .int .i64 a), (2, .int .i64 b), (7, .int .i64 ((i2 : Int) + 1)), (8, .int .i64 (jj : Nat)), (14, v16), (32, v)] ∧ H1 = H') (L_loopV [7] (fun k vs H' => ∃ i2 : Nat, k = b - i2 ∧ i ≤ i2 ∧ i2 + 1 ≤ b ∧ Srt κ a (i2 + 1) d ∧ vs = [.int .i64 ((i2 : Int) + 1)] ∧ H1 = H') _ [.int .i64 ((i : Int) + 1)] rfl ⟨i, rfl, by omega, by omega, hso, rfl, rfl⟩ ?_) ?_
    · rintro k _ _ ⟨i2, rfl, h1, h2, h3, rfl, rfl⟩
      by_cases hc : i2 + 1 < b
      · have hcq : (i2 : Int) + 1 < b := by omega
        have hx := hrow.ld (i := i2 + 1) (by omega)
        have hy := hrow.ld (i := i2) (by omega)
        have hw : IntKind.i64.wrap (i2 : Int) = (i2 : Int) := wrap_i64 (by omega)
        have t1 : ((i2 : Int) + 1).toNat = i2 + 1 := by omega
        have t2 : (0 : Int) ≤ (i2 : Int) + 1 := by omega
        have t3 : (i2 : Int) + 1 < (n : Int) := by omega
        have t4 : i2 < n := by omega
        refine L_regT mixed [0, 1, 2, 7, 8, 14, 32] (by kernel_rfl) (fun K hK => ?_)
        simp [okFn_low, hw, t1, t2, t3, t4, hx, hy, hcq]
        refine exC_mk (fun Q hQ => hCk.2 H1 (.refl _ _) _ _ (hdD (i2 + 1) (by omega)) (hdD i2 (by omega)) Q hQ) ?_
        simp [pickV]
        apply hK; clear hK K
        by_cases hless : κ (g d (i2 + 1)) < κ (g d i2)
        · have := cmpS_neg.2 hless
          refine L_false (by simpa using this) (L_exit ?_)
          exact ⟨i2, _, _, h1, h2, h3, fun _ => hless, rfl, rfl⟩
        · have : ¬ cmpS (κ (g d (i2 + 1))) (κ (g d i2)) < 0 := fun h => hless (cmpS_neg.1 h)
          refine L_true (by simpa using this) ?_
          refine L_block ?_
          refine L_reg [0, 1, 2, 7, 8, 14] (fun K hK => ?_)
          simp [wrap_i64 (a := (i2 : Int) + 1 + 1) (by omega)]
          apply hK; clear hK K
          exact ⟨b - (i2 + 1), [.int .i64 (((i2 + 1 : Nat) : Int) + 1)], by omega, by simp, i2 + 1, rfl, by omega, by omega, h3.more (by omega) (by omega), rfl, rfl⟩
      · have hcq : ¬ (i2 : Int) + 1 < b := by omega
        refine L_regT mixed [0, 1, 2, 7, 8, 14, 32] (by kernel_rfl) (fun K hK => ?_)
        simp [pickV, hcq]
        apply hK; clear hK K
        refine L_false (by simp) (L_exit ?_)
        exact ⟨i2, _, _, h1, h2, h3, fun h => absurd h hc, rfl, rfl⟩
    rintro _ _ ⟨i2, v16, v36, hi2, hi2b, hso2, hstop, rfl, rfl⟩
    clear hso
    refine L_reg [0, 1, 2, 7, 8, 37] (fun K hK => ?_)
    simp
    apply hK; clear hK K
    refine L_split rfl (fun heq => ?_) (fun hne => ?_)
    · have : i2 + 1 = b := by have := eq_of_beq heq; omega
      refine L_reg [6] (fun K hK => ?_)
      simp
      apply hK; clear hK K
      subst this
      exact L_ret ⟨.inr rfl, _, rfl, h H1 d true hS (fun _ => hso2) hrow hK⟩
    have hib2 : i2 + 1 < b := by
      have : ¬ (i2 : Int) + 1 = b := by simpa using hne
      omega
    refine L_reg [0, 1, 2, 7, 8, 41] (fun K hK => ?_)
    simp [wrap_i64 (a := (b : Int) - a) (by omega)]
    apply hK; clear hK K
    refine L_dec ((b : Int) - a < 50) (by simp) (fun h50 => ?_) (fun h50 => ?_)
    · refine L_reg [6] (fun K hK => ?_)
      simp
      apply hK; clear hK K
      exact L_ret ⟨.inr rfl, _, rfl, h H1 d false hS (fun h => by cases h) hrow hK⟩
    have hx := hrow.ld (i := i2 + 1) (by omega)
    have hy := hrow.ld (i := i2) (by omega)
    have hw : IntKind.i64.wrap (i2 : Int) = (i2 : Int) := wrap_i64 (by omega)
    have t1 : ((i2 : Int) + 1).toNat = i2 + 1 := by omega
    have t2 : (0 : Int) ≤ (i2 : Int) + 1 := by omega
    have t3 : (i2 : Int) + 1 < (n : Int) := by omega
    have t4 : i2 < n := by omega
    obtain ⟨H2, H3, e1, e2, e3, e4⟩ := hrow.swap (i := i2 + 1) (j := i2) (by omega) (by omega)
    refine L_regT mixed [0, 1, 2, 7, 8] (by kernel_rfl) (fun K hK => ?_)
    simp [hw, t1, t2, t3, t4, hx, hy, e1, e2]
    apply hK; clear hK K
    have w0 := sw_i (c := d) (i := i2 + 1) (j := i2) (by omega) (by omega)
    have w1 := sw_j (c := d) (i := i2 + 1) (j := i2) (by omega) (by omega)
    have w2 := fun (k : Nat) (k1 : k ≠ i2 + 1) (k2 : k ≠ i2) => sw_o (c := d) (i := i2 + 1) (j := i2) (by omega) (by omega) k1 k2
    have hS3 : Shuf a b c (sw d (i2 + 1) i2) := hS.trans (.swap (by omega) (by omega) (by omega))
    have hole : ∀ p q, a ≤ p → p < q → q ≤ i2 → q ≠ i2 → κ (g (sw d (i2 + 1) i2) p) ≤ κ (g (sw d (i2 + 1) i2) q) := by
      intro p q h1 h2 h3 h4
      rw [w2 p (by omega) (by omega), w2 q (by omega) (by omega)]
      exact hso2 p q h1 h2 (by omega)
    have hK3 := hK.trans e4
    generalize sw d (i2 + 1) i2 = d3 at e3 hS3 hole
    clear w0 w1 w2 e1 e2 hx hy hw t1 t2 t3 t4 hrow hK hdD hCk hdl hS hstop hso2 e4
    clear hlt hne h50
    clear H2
    have hrow := e3
    have hS := hS3
    have hK := hK3
    clear e3 hS3 hK3
    refine L_reg [0, 1, 2, 7, 8, 61] (fun K hK => ?_)
    simp [wrap_i64 (a := (i2 : Int) + 1 - a) (by omega)]
    apply hK; clear hK K
    refine L_condK [0, 1, 2, 7, 8] (fun e' H' => ∃ d : List Int, Shuf a b c d ∧ Srt κ a (i2 + 1) d ∧ Rw tl r ver H' d ∧ KeepX r H H' ∧ e' = [(0, SV sb r 0 n ver), (1, .int .i64 a), (2, .int .i64 b), (7, .int .i64 ((i2 : Int) + 1)), (8, .int .i64 (jj : Nat))]) (t := decide ((2 : Int) ≤ (i2 : Int) + 1 - a)) (by simp) (fun ht => ?_) (fun ht => ?_) ?_
    · have h2 : (2 : Int) ≤ (i2 : Int) + 1 - a := of_decide_eq_true ht
      refine L_reg [0, 1, 2, 7, 8, 9] (fun K hK => ?_)
      simp [wrap_i64 (a := (i2 : Int)) (by omega)]
      apply hK; clear hK K
      refine L_block (L_loopV [9] (fun k vs H' => ∃ (j : Nat) (d : List Int), k = j ∧ a ≤ j ∧ j ≤ i2 ∧ Shuf a b c d ∧ (∀ p q, a ≤ p → p < q → q ≤ i2 → q ≠ j → κ (g d p) ≤ κ (g d q)) ∧ vs = [.int .i64 j] ∧ Rw tl r ver H' d ∧ KeepX r H H') _ [.int .i64 i2] rfl ⟨i2, d3, rfl, by omega, by omega, hS, hole, rfl, hrow, hK⟩ ?_)
      clear hS hole hrow hK
      clear d3 H3 d H1
      rintro k _ H1 ⟨j, d, rfl, haj, hji, hS, ho, rfl, hrow, hK⟩
      have hdl : d.length = n := by rw [hS.len]; exact hn
      have hdD := hD.perm hS.1
      have hCk := hC.keep hK
      cases k with
      | zero =>
        refine L_reg [0, 1, 2, 7, 8, 9, 65] (fun K hK => ?_)
        simp
        apply hK; clear hK K
        refine L_false (by simp) (L_exit ?_)
        exact ⟨d, hS, fun p q h1 h2 h3 => ho p q h1 h2 (by omega) (by omega), hrow, hK, rfl⟩
      | succ j =>
        refine L_reg [0, 1, 2, 7, 8, 9, 65] (fun K hK => ?_)
        simp
        apply hK; clear hK K
        refine L_true (by simp; omega) ?_
        refine L_block ?_
        have hx := hrow.ld (i := j + 1) (by omega)
        have hy := hrow.ld (i := j) (by omega)
        have hw : IntKind.i64.wrap (j : Int) = (j : Int) := wrap_i64 (by omega)
        have t1 : ((j : Int) + 1).toNat = j + 1 := by omega
        have t2 : (0 : Int) ≤ (j : Int) + 1 := by omega
        have t3 : (j : Int) + 1 < (n : Int) := by omega
        have t4 : j < n := by omega
        refine L_regT mixed [0, 1, 2, 7, 8, 9, 78] (by kernel_rfl) (fun K hK => ?_)
        simp [okFn_low, hw, t1, t2, t3, t4, hx, hy]
        refine exC_mk (fun Q hQ => hCk.2 H1 (.refl _ _) _ _ (hdD (j + 1) (by omega)) (hdD j (by omega)) Q hQ) ?_
        simp
        apply hK; clear hK K
        by_cases hless : κ (g d (j + 1)) < κ (g d j)
        · have := cmpS_neg.2 hless
          refine L_false (by simpa using this) ?_
          have haj2 : a ≤ j := by
            by_cases e : a ≤ j
            · exact e
            · have ea : a = j + 1 := by omega
              exfalso
              have h5 := hS.all (by omega) (p := fun x => κ (g c (a - 1)) ≤ κ x) (fun k h6 h7 => hpre (by omega) k h6 h7) (j + 1) (by omega) (by omega)
              rw [← hS.2 (a - 1) (by omega), show a - 1 = j by omega] at h5
              have h5 : κ (g d j) ≤ κ (g d (j + 1)) := h5
              omega
          obtain ⟨H2, H3, e1, e2, e3, e4⟩ := hrow.swap (i := j + 1) (j := j) (by omega) (by omega)
          refine L_regT mixed [0, 1, 2, 7, 8, 9] (by kernel_rfl) (fun K hK => ?_)
          simp [hw, t1, t2, t3, t4, hx, hy, e1, e2]
          apply hK; clear hK K
          refine L_reg [0, 1, 2, 7, 8, 9] (fun K hK => ?_)
          simp [hw]
          apply hK; clear hK K
          refine ⟨j, [.int .i64 (j : Nat)], by omega, by simp, j, _, rfl, by omega, by omega, hS.trans (.swap (by omega) (by omega) (by omega)), fun p q h1 h2 h3 h4 => ?_, rfl, e3, hK.trans e4⟩
          have w0 := sw_i (c := d) (i := j + 1) (j := j) (by omega) (by omega)
          have w1 := sw_j (c := d) (i := j + 1) (j := j) (by omega) (by omega)
          have w2 := fun (k : Nat) (k1 : k ≠ j + 1) (k2 : k ≠ j) => sw_o (c := d) (i := j + 1) (j := j) (by omega) (by omega) k1 k2
          by_cases q1 : q = j + 1
          · subst q1
            by_cases p1 : p = j
            · subst p1; rw [w0, w1]; omega
            · rw [w0, w2 p (by omega) p1]
              exact ho p j h1 (by omega) (by omega) (by omega)
          · rw [w2 q q1 h4]
            by_cases p1 : p = j
            · subst p1; rw [w1]
              exact ho (p + 1) q (by omega) (by omega) h3 (by omega)
            · by_cases p2 : p = j + 1
              · subst p2; rw [w0]
                exact ho j q (by omega) (by omega) h3 (by omega)
              · rw [w2 p p2 p1]
                exact ho p q h1 h2 h3 (by omega)
        · have : ¬ cmpS (κ (g d (j + 1))) (κ (g d j)) < 0 := fun h => hless (cmpS_neg.1 h)
          refine L_true (by simpa using this) (L_exit ?_)
          refine ⟨d, hS, fun p q h1 h2 h3 => ?_, hrow, hK, rfl⟩
          by_cases q1 : q = j + 1
          · subst q1
            by_cases p1 : p = j
            · subst p1; omega
            · have := ho p j h1 (by omega) (by omega) (by omega)
              omega
          · exact ho p q h1 h2 (by omega) q1
    · have h2 : ¬ (2 : Int) ≤ (i2 : Int) + 1 - a := of_decide_eq_false ht
      exact ⟨d3, hS, fun p q h1 h2 h3 => by omega, hrow, hK, by simp⟩
    clear hS hole hrow hK
    clear d3 H3 d H1
    rintro _ H1 ⟨d, hS, hso, hrow, hK, rfl⟩
    refine L_reg [0, 1, 2, 7, 8, 98] (fun K hK => ?_)
    simp [wrap_i64 (a := (b : Int) - ((i2 : Int) + 1)) (by omega)]
    apply hK; clear hK K
    refine L_dec ((2 : Int) ≤ (b : Int) - ((i2 : Int) + 1)) (by simp) (fun h2 => ?_) (fun h2 => ?_)
    · refine L_reg [0, 1, 2, 7, 8, 10] (fun K hK => ?_)
      simp [wrap_i64 (a := (i2 : Int) + 1 + 1) (by omega)]
      apply hK; clear hK K
      refine L_blockR (fun e' H' => ∃ (d : List Int) (v12 v x : AV), Shuf a b c d ∧ Srt κ a (i2 + 1) d ∧ Rw tl r ver H' d ∧ KeepX r H H' ∧ (e' = [(0, SV sb r 0 n ver), (1, .int .i64 a), (2, .int .i64 b), (7, .int .i64 ((i2 : Int) + 1)), (8, .int .i64 (jj : Nat)), (10, v12), (103, v)] ∨ e' = [(0, SV sb r 0 n ver), (1, .int .i64 a), (2, .int .i64 b), (7, .int .i64 ((i2 : Int) + 1)), (8, .int .i64 (jj : Nat)), (10, v12), (116, v)])) (L_loopV [10] (fun k vs H' => ∃ (j : Nat) (d : List Int), k = b - j ∧ i2 + 1 ≤ j ∧ j + 1 ≤ b ∧ Shuf a b c d ∧ Srt κ a (i2 + 1) d ∧ vs = [.int .i64 ((j : Int) + 1)] ∧ Rw tl r ver H' d ∧ KeepX r H H') _ [.int .i64 ((i2 : Int) + 1 + 1)] rfl ⟨i2 + 1, d, rfl, by omega, by omega, hS, hso, rfl, hrow, hK⟩ ?_) ?_
      · clear hS hso hrow hK
        clear d H1
        rintro k _ H1 ⟨j, d, rfl, h1, h2, hS, hso, rfl, hrow, hK⟩
        have hdl : d.length = n := by rw [hS.len]; exact hn
        have hdD := hD.perm hS.1
        have hCk := hC.keep hK
        refine L_reg [0, 1, 2, 7, 8, 10, 103] (fun K hK => ?_)
        simp
        apply hK; clear hK K
        refine L_dec ((j : Int) + 1 < b) (by simp) (fun hlt => ?_) (fun hge => L_exit ?_)
        · refine L_block ?_
          have hx := hrow.ld (i := j + 1) (by omega)
          have hy := hrow.ld (i := j) (by omega)
          have hw : IntKind.i64.wrap (j : Int) = (j : Int) := wrap_i64 (by omega)
          have t1 : ((j : Int) + 1).toNat = j + 1 := by omega
          have t2 : (0 : Int) ≤ (j : Int) + 1 := by omega
          have t3 : (j : Int) + 1 < (n : Int) := by omega
          have t4 : j < n := by omega
          refine L_regT mixed [0, 1, 2, 7, 8, 10, 116] (by kernel_rfl) (fun K hK => ?_)
          simp [okFn_low, hw, t1, t2, t3, t4, hx, hy]
          refine exC_mk (fun Q hQ => hCk.2 H1 (.refl _ _) _ _ (hdD (j + 1) (by omega)) (hdD j (by omega)) Q hQ) ?_
          simp
          apply hK; clear hK K
          by_cases hless : κ (g d (j + 1)) < κ (g d j)
          · have := cmpS_neg.2 hless
            refine L_false (by simpa using this) ?_
            obtain ⟨H2, H3, e1, e2, e3, e4⟩ := hrow.swap (i := j + 1) (j := j) (by omega) (by omega)
            refine L_regT mixed [0, 1, 2, 7, 8, 10] (by kernel_rfl) (fun K hK => ?_)
            simp [hw, t1, t2, t3, t4, hx, hy, e1, e2]
            apply hK; clear hK K
            refine L_reg [0, 1, 2, 7, 8, 10] (fun K hK => ?_)
            simp [wrap_i64 (a := (j : Int) + 1 + 1) (by omega)]
            apply hK; clear hK K
            refine ⟨b - (j + 1), [.int .i64 (((j + 1 : Nat) : Int) + 1)], by omega, by simp, j + 1, _, rfl, by omega, by omega, hS.trans (.swap (by omega) (by omega) (by omega)), fun p q h1 h2 h3 => ?_, rfl, e3, hK.trans e4⟩
            have w2 := fun (k : Nat) (k1 : k ≠ j + 1) (k2 : k ≠ j) => sw_o (c := d) (i := j + 1) (j := j) (by omega) (by omega) k1 k2
            rw [w2 p (by omega) (by omega), w2 q (by omega) (by omega)]
            exact hso p q h1 h2 h3
          · have : ¬ cmpS (κ (g d (j + 1))) (κ (g d j)) < 0 := fun h => hless (cmpS_neg.1 h)
            refine L_true (by simpa using this) (L_exit ?_)
            exact ⟨d, _, _, .undef, hS, hso, hrow, hK, .inr rfl⟩
        · exact ⟨d, _, _, .undef, hS, hso, hrow, hK, .inl rfl⟩
      clear hS hso hrow hK
      clear d H1
      rintro _ H1 ⟨d, v12, v, -, hS, hso, hrow, hK, rfl | rfl⟩
      · refine L_reg [0, 1, 2, 7, 8] (fun K hK => ?_)
        simp [wrap_i64 (a := (jj : Int) + 1) (by omega)]
        apply hK; clear hK K
        exact ⟨5 - (jj + 1), [.int .i64 ((i2 : Int) + 1), .int .i64 (jj + 1 : Nat)], by omega, by simp, i2, jj + 1, d, rfl, by omega, by omega, by omega, hS, hso, rfl, hrow, hK⟩
      · refine L_reg [0, 1, 2, 7, 8] (fun K hK => ?_)
        simp [wrap_i64 (a := (jj : Int) + 1) (by omega)]
        apply hK; clear hK K
        exact ⟨5 - (jj + 1), [.int .i64 ((i2 : Int) + 1), .int .i64 (jj + 1 : Nat)], by omega, by simp, i2, jj + 1, d, rfl, by omega, by omega, by omega, hS, hso, rfl, hrow, hK⟩
    · refine L_reg [0, 1, 2, 7, 8] (fun K hK => ?_)
      simp [wrap_i64 (a := (jj : Int) + 1) (by omega)]
      apply hK; clear hK K
      exact ⟨5 - (jj + 1), [.int .i64 ((i2 : Int) + 1), .int .i64 (jj + 1 : Nat)], by omega, by simp, i2, jj + 1, d, rfl, by omega, by omega, by omega, hS, hso, rfl, hrow, hK⟩
  · refine L_reg [6] (fun K hK => ?_)
    simp
    apply hK; clear hK K
    exact L_ret ⟨.inr rfl, _, rfl, h H1 d false hS (fun h => by cases h) hrow hK⟩
end Go.Proofs.Ytpfkioakjmpimaa.Ord

/- Sorting numbers (Pdq). -/
namespace Go.Proofs.Ytpfkioakjmpimaa.Ord
open Go Go.Proofs.Ytpfkioakjmpimaa.AX Go.Proofs.Ytpfkioakjmpimaa
variable {sb : Bool} {tl : List AV}

set_option maxRecDepth 100000 in
theorem pivot_ac' (D : Int → Prop) (κ : Int → Int) (r ver a b l : Nat) (hbl : b = a + l) (c : List Int) (n : Nat) (hn : c.length = n) (H : AH) (Q : AV → AH → Prop) (hC : CmpO D κ r H) (hr : Rw tl r ver H c) (hrl : r < H.length) (hD : All D c) (hlen : n ≤ 1000000) (hl : 12 < l) (hb : b ≤ n)
    (h : ∀ (H' : AH) (x : Nat) (hint : Int), a ≤ x ∧ x < b → KeepX r H H' → Rw tl r ver H' c → Q (.tuple [.int .i64 x, .int .i64 hint]) H') : AC Try.prog 115 [SV sb r 0 n ver, .int .i64 a, .int .i64 b] H Q := by
  subst hbl; subst hn; exact pivot_ac D κ r ver a l c H Q hC hr hrl hD hlen hl hb h
set_option maxRecDepth 100000 in
theorem break_ac' (r ver a b l : Nat) (hbl : b = a + l) (c : List Int) (n : Nat) (hn : c.length = n) (H : AH) (Q : AV → AH → Prop) (hr : Rw tl r ver H c) (hrl : r < H.length) (hlen : n ≤ 127) (hl : 12 < l) (hb : b ≤ n)
    (h : ∀ (H' : AH) (m : List Int), Shuf a b c m → Rw tl r ver H' m → KeepX r H H' → Q (.tuple []) H') : AC Try.prog 114 [SV sb r 0 n ver, .int .i64 a, .int .i64 b] H Q := by
  subst hbl; subst hn; exact break_ac r ver a l c H Q hr hrl hlen hl hb h
set_option maxRecDepth 100000 in
theorem heapSort_ac' (D : Int → Prop) (κ : Int → Int) (r ver a b l : Nat) (hbl : b = a + l) (c : List Int) (n : Nat) (hn : c.length = n) (H : AH) (Q : AV → AH → Prop) (hC : CmpO D κ r H) (hr : Rw tl r ver H c) (hD : All D c) (hl : n ≤ 1000000) (hb : b ≤ n) (hl1 : 1 ≤ l)
    (h : ∀ (H' : AH) (m : List Int), Shuf a b c m → Srt κ a b m → Rw tl r ver H' m → KeepX r H H' → Q (.tuple []) H') : AC Try.prog 113 [SV sb r 0 n ver, .int .i64 a, .int .i64 b] H Q := by
  subst hbl; subst hn; exact heapSort_ac D κ r ver a l c H Q hC hr hD hl hb hl1 h
set_option maxRecDepth 100000 in
theorem partEq_ac' (D : Int → Prop) (κ : Int → Int) (r ver a b pv : Nat) (c : List Int) (n : Nat) (hn : c.length = n) (H : AH) (Q : AV → AH → Prop) (hC : CmpO D κ r H) (hr : Rw tl r ver H c) (hD : All D c) (hl : n ≤ 1000000) (hpa : a ≤ pv) (hpb : pv < b) (hb : b ≤ n)
    (h : ∀ (H' : AH) (m : List Int) (p : Nat), a < p → p ≤ b → Shuf a b c m → (∀ k, a ≤ k → k < p → κ (g m k) ≤ κ (g c pv)) → (∀ k, p ≤ k → k < b → κ (g c pv) < κ (g m k)) → Rw tl r ver H' m → KeepX r H H' → Q (.int .i64 p) H') : AC Try.prog 119 [SV sb r 0 n ver, .int .i64 a, .int .i64 b, .int .i64 pv] H Q := by
  subst hn; exact partEq_ac D κ r ver a b pv c H Q hC hr hD hl hpa hpb hb h
set_option maxRecDepth 100000 in
theorem part_ac' (D : Int → Prop) (κ : Int → Int) (r ver a b pv : Nat) (c : List Int) (n : Nat) (hn : c.length = n) (H : AH) (Q : AV → AH → Prop) (hC : CmpO D κ r H) (hr : Rw tl r ver H c) (hD : All D c) (hl : n ≤ 1000000) (hpa : a ≤ pv) (hpb : pv < b) (hb : b ≤ n)
    (h : ∀ (H' : AH) (m : List Int) (p : Nat) (bb : Bool), a ≤ p → p < b → Shuf a b c m → (∀ k, a ≤ k → k < p → κ (g m k) ≤ κ (g m p)) → (∀ k, p < k → k < b → κ (g m p) ≤ κ (g m k)) → Rw tl r ver H' m → KeepX r H H' → Q (.tuple [.int .i64 p, .bool bb]) H') : AC Try.prog 120 [SV sb r 0 n ver, .int .i64 a, .int .i64 b, .int .i64 pv] H Q := by
  subst hn; exact part_ac D κ r ver a b pv c H Q hC hr hD hl hpa hpb hb h
set_option maxRecDepth 100000 in
theorem pdq_ac (D : Int → Prop) (κ : Int → Int) (r ver n : Nat) (hn127 : n ≤ 127) : ∀ (N a b lim : Nat) (c : List Int) (H : AH) (Q : AV → AH → Prop), b - a < N → CmpO D κ r H → Rw tl r ver H c → r < H.length → All D c → c.length = n → a ≤ b → b ≤ n → lim ≤ 1000 → Pre κ a b c →
    (∀ (H' : AH) (m : List Int), Shuf a b c m → Srt κ a b m → Rw tl r ver H' m → KeepX r H H' → Q (.tuple []) H') → AC Try.prog 106 [SV sb r 0 n ver, .int .i64 a, .int .i64 b, .int .i64 lim] H Q := by
  intro N
  induction N with
  | zero => intro a b lim c H Q h; omega
  | succ N ih =>
  intro a b lim c H Q hN hC hr hrl hD hn hab hb hlim hpre h
  refine L_body 134 Try.func106 rfl rfl ?_
  refine L_reg [0, 1, 2, 3, 8] (fun K hK => ?_)
  simp
  apply hK; clear hK K
  refine L_reg [0, 1, 2, 3, 8, 9] (fun K hK => ?_)
  simp
  apply hK; clear hK K
  refine L_block (L_loopV [1, 2, 3, 8, 9] (fun k vs H' => ∃ (a' b' lm : Nat) (wb wp : Bool) (d : List Int), k = b' - a' ∧ a ≤ a' ∧ a' ≤ b' ∧ b' ≤ b ∧ lm ≤ 1000 ∧ Shuf a b c d ∧ OrdEx κ a b a' b' d ∧ Pre κ a' b' d ∧ vs = [.int .i64 a', .int .i64 b', .int .i64 lm, .bool wb, .bool wp] ∧ Rw tl r ver H' d ∧ KeepX r H H') _ [.int .i64 a, .int .i64 b, .int .i64 lim, .bool true, .bool true] rfl ⟨a, b, lim, true, true, c, rfl, by omega, hab, by omega, hlim, .refl _ _ _, fun p q h1 h2 h3 h4 => by omega, hpre, rfl, hr, .refl r H⟩ ?_)
  rintro _ _ H1 ⟨a', b', lm, wb, wp, d, rfl, haa, hab', hbb, hlm, hS, hO, hP, rfl, hrow, hK⟩
  refine L_block ?_
  obtain ⟨l, hbl⟩ : ∃ l, b' = a' + l := ⟨b' - a', by omega⟩
  have hdl : d.length = n := by rw [hS.len]; exact hn
  have hdD := hD.perm hS.1
  have hCk := hC.keep hK
  have hr1 : r < H1.length := by have := hK.1; omega
  refine L_reg [0, 1, 2, 3, 8, 9, 10] (fun K hK => ?_)
  simp [show ((b' : Int) - a') = l by omega, wrap_i64 (a := (l : Int)) (by omega)]
  apply hK; clear hK K
  refine L_reg [0, 1, 2, 3, 8, 9, 10, 23] (fun K hK => ?_)
  simp
  apply hK; clear hK K
  refine L_dec ((l : Int) ≤ 12) (by simp) (fun h12 => ?_) (fun h12 => ?_)
  · refine L_reg [] (fun K hK0 => ?_)
    simp [okFn_low]
    have := insertion_ac (sb := sb) D κ r ver a' b' d H1 (fun v H' => K [] H') hCk hrow hdD (by omega) (by omega) (by omega) (fun H2 m m1 m2 m3 m4 => ?_)
    · rw [hdl] at this; exact this
    apply hK0; clear hK0 K
    exact L_ret ⟨.inr rfl, _, rfl, h H2 m (hS.trans (m1.wide haa hbb)) ((hO.mix m1 (by omega) haa hbb).srt m2) m3 (hK.trans m4)⟩
  refine L_reg [0, 1, 2, 3, 8, 9, 10, 29] (fun K hK => ?_)
  simp
  apply hK; clear hK K
  refine L_split rfl (fun h0 => ?_) (fun h0 => ?_)
  · refine L_reg [] (fun K hK0 => ?_)
    simp [okFn_low]
    refine heapSort_ac' D κ r ver a' b' l hbl d n hdl H1 _ hCk hrow hdD (by omega) (by omega) (by omega) (fun H2 m m1 m2 m3 m4 => ?_)
    simp
    apply hK0; clear hK0 K
    exact L_ret ⟨.inr rfl, _, rfl, h H2 m (hS.trans (m1.wide haa hbb)) ((hO.mix m1 (by omega) haa hbb).srt m2) m3 (hK.trans m4)⟩
  have hlm0 : 1 ≤ lm := by
    have : (lm : Int) ≠ 0 := by simpa using h0
    omega
  refine L_reg [0, 1, 2, 3, 8, 9, 10, 35] (fun K hK => ?_)
  simp
  apply hK; clear hK K
  refine L_condK [0, 1, 2, 3, 8, 9, 10] (fun e' H' => ∃ (lm : Nat) (d : List Int), lm ≤ 1000 ∧ Shuf a b c d ∧ OrdEx κ a b a' b' d ∧ Pre κ a' b' d ∧ Rw tl r ver H' d ∧ KeepX r H H' ∧ e' = [(0, SV sb r 0 n ver), (1, .int .i64 a'), (2, .int .i64 b'), (3, .int .i64 (lm : Nat)), (8, .bool wb), (9, .bool wp), (10, .int .i64 l)]) (t := !wb) rfl (fun ht => ?_) (fun ht => ?_) ?_
  · refine L_reg [0, 1, 2, 3, 8, 9, 10] (fun K hK0 => ?_)
    simp [okFn_low]
    refine break_ac' r ver a' b' l hbl d n hdl H1 _ hrow hr1 hn127 (by omega) (by omega) (fun H2 m m1 m3 m4 => ?_)
    simp
    apply hK0; clear hK0 K
    obtain ⟨lm', rfl⟩ : ∃ x, lm = x + 1 := ⟨lm - 1, by omega⟩
    refine L_reg [0, 1, 2, 3, 8, 9, 10] (fun K hK => ?_)
    simp [wrap_i64 (a := (lm' : Int)) (by omega)]
    apply hK; clear hK K
    exact ⟨lm', m, by omega, hS.trans (m1.wide haa hbb), hO.mix m1 (by omega) haa hbb, hP.mix m1 (by omega), m3, hK.trans m4, by simp⟩
  · exact ⟨lm, d, hlm, hS, hO, hP, hrow, hK, by simp⟩
  clear hlm hS hO hP hrow hK hdl hdD hCk hr1 hlm0 h0
  clear d H1 lm
  rintro _ H1 ⟨lm, d, hlm, hS, hO, hP, hrow, hK, rfl⟩
  have hdl : d.length = n := by rw [hS.len]; exact hn
  have hdD := hD.perm hS.1
  have hr1 : r < H1.length := by have := hK.1; omega
  refine L_reg [0, 1, 2, 3, 8, 9, 10, 11, 12] (fun K hK0 => ?_)
  simp [okFn_low]
  refine pivot_ac' D κ r ver a' b' l hbl d n hdl H1 _ (hC.keep hK) hrow hr1 hdD (by omega) (by omega) (by omega) (fun H2 pv hint hpv m4 m3 => ?_)
  simp
  apply hK0; clear hK0 K
  have hK2 := hK.trans m4
  clear hrow hK hr1
  refine L_reg [0, 1, 2, 3, 8, 9, 10, 11, 12, 50] (fun K hK => ?_)
  simp
  apply hK; clear hK K
  refine L_condK [0, 1, 2, 3, 8, 9, 10, 11, 12] (fun e' H' => ∃ (pv : Nat) (hint : Int) (d : List Int), (a' ≤ pv ∧ pv < b') ∧ Shuf a b c d ∧ OrdEx κ a b a' b' d ∧ Pre κ a' b' d ∧ Rw tl r ver H' d ∧ KeepX r H H' ∧ e' = [(0, SV sb r 0 n ver), (1, .int .i64 a'), (2, .int .i64 b'), (3, .int .i64 lm), (8, .bool wb), (9, .bool wp), (10, .int .i64 l), (11, .int .i64 (pv : Nat)), (12, .int .i64 hint)]) (t := (hint == 2)) rfl (fun ht => ?_) (fun ht => ?_) ?_
  · refine L_reg [0, 1, 2, 3, 8, 9, 10, 11] (fun K hK0 => ?_)
    simp [okFn_low]
    have := reverse_ac (sb := sb) r ver a' b' d H2 (fun v H' => K [(0, SV sb r 0 n ver), (1, .int .i64 a'), (2, .int .i64 b'), (3, .int .i64 lm), (8, .bool wb), (9, .bool wp), (10, .int .i64 l), (11, .int .i64 pv)] H') m3 (by omega) (by omega) (by omega) (fun H3 m q1 q3 q4 => ?_)
    · rw [hdl] at this; exact this
    apply hK0; clear hK0 K
    obtain ⟨pv2, hpv2⟩ : ∃ x : Nat, (b' : Int) - 1 - ((pv : Int) - a') = x := ⟨b' - 1 - (pv - a'), by omega⟩
    refine L_reg [0, 1, 2, 3, 8, 9, 10, 11] (fun K hK => ?_)
    simp [wrap_i64 (a := (b' : Int) - 1) (by omega), wrap_i64 (a := (pv : Int) - a') (by omega), hpv2, wrap_i64 (a := (pv2 : Int)) (by omega)]
    apply hK; clear hK K
    refine L_reg [0, 1, 2, 3, 8, 9, 10, 11, 12] (fun K hK => ?_)
    simp
    apply hK; clear hK K
    exact ⟨pv2, 1, m, by omega, hS.trans (q1.wide haa hbb), hO.mix q1 (by omega) haa hbb, hP.mix q1 (by omega), q3, hK2.trans q4, by simp⟩
  · exact ⟨pv, hint, d, hpv, hS, hO, hP, m3, hK2, by simp⟩
  clear hS hO hP hdl hdD m3 m4 hK2 hpv
  clear d H1 H2 pv hint
  rintro _ H1 ⟨pv, hint, d, hpv, hS, hO, hP, hrow, hK, rfl⟩
  have hdl : d.length = n := by rw [hS.len]; exact hn
  have hdD := hD.perm hS.1
  refine L_reg [0, 1, 2, 3, 8, 9, 10, 11, 68] (fun K hK0 => ?_)
  have hK2 : ∀ t : Bool, K [(0, SV sb r 0 n ver), (1, .int .i64 a'), (2, .int .i64 b'), (3, .int .i64 lm), (8, .bool wb), (9, .bool wp), (10, .int .i64 l), (11, .int .i64 pv), (68, .bool t)] H1 := by
    intro t
    refine hK0 _ _ ?_
    clear hK0 K
    refine L_condK [0, 1, 2, 3, 8, 9, 10, 11] (fun e' H' => ∃ (d : List Int), Shuf a b c d ∧ OrdEx κ a b a' b' d ∧ Pre κ a' b' d ∧ Rw tl r ver H' d ∧ KeepX r H H' ∧ e' = [(0, SV sb r 0 n ver), (1, .int .i64 a'), (2, .int .i64 b'), (3, .int .i64 lm), (8, .bool wb), (9, .bool wp), (10, .int .i64 l), (11, .int .i64 (pv : Nat))]) (t := t) rfl (fun ht => ?_) (fun ht => ?_) ?_
    · refine L_reg [0, 1, 2, 3, 8, 9, 10, 11, 72] (fun K hK0 => ?_)
      simp [okFn_low]
      have := partial_ac (sb := sb) D κ r ver a' b' d H1 (fun v H' => K [(0, SV sb r 0 n ver), (1, .int .i64 a'), (2, .int .i64 b'), (3, .int .i64 lm), (8, .bool wb), (9, .bool wp), (10, .int .i64 l), (11, .int .i64 pv), (72, v)] H') (hC.keep hK) hrow hdD (by omega) (by omega) (by omega) hP (fun H3 m t q1 q2 q3 q4 => ?_)
      · rw [hdl] at this; exact this
      apply hK0; clear hK0 K
      cases t with
      | true =>
        refine L_true rfl ?_
        exact L_ret ⟨.inr rfl, _, rfl, h H3 m (hS.trans (q1.wide haa hbb)) ((hO.mix q1 (by omega) haa hbb).srt (q2 rfl)) q3 (hK.trans q4)⟩
      | false =>
        refine L_false rfl ?_
        exact ⟨m, hS.trans (q1.wide haa hbb), hO.mix q1 (by omega) haa hbb, hP.mix q1 (by omega), q3, hK.trans q4, by simp⟩
    · exact ⟨d, hS, hO, hP, hrow, hK, by simp⟩
    clear hS hO hP hrow hK hdl hdD
    clear d H1
    rintro _ H1 ⟨d, hS, hO, hP, hrow, hK, rfl⟩
    have hdl : d.length = n := by rw [hS.len]; exact hn
    have hdD := hD.perm hS.1
    have hCk := hC.keep hK
    refine L_regT mixed [0, 1, 2, 3, 8, 9, 10, 11, 87] (by kernel_rfl) (fun K hK0 => ?_)
    have hK2 : ∀ t : Bool, (t = true → 0 < a' ∧ ¬ κ (g d (a' - 1)) < κ (g d pv)) → K [(0, SV sb r 0 n ver), (1, .int .i64 a'), (2, .int .i64 b'), (3, .int .i64 lm), (8, .bool wb), (9, .bool wp), (10, .int .i64 l), (11, .int .i64 pv), (87, .bool t)] H1 := by
      intro t ht
      refine hK0 _ _ ?_
      clear hK0 K
      refine L_split rfl (fun ht2 => ?_) (fun ht2 => ?_)
      · obtain ⟨hpos, hge⟩ := ht ht2
        have hmin : ∀ k, a' ≤ k → k < b' → κ (g d pv) ≤ κ (g d k) := fun k k1 k2 => Int.le_trans (Int.not_lt.1 hge) (hP hpos k k1 k2)
        refine L_reg [0, 2, 3, 8, 9, 13] (fun K hK0 => ?_)
        simp [okFn_low]
        refine partEq_ac' D κ r ver a' b' pv d n hdl H1 _ hCk hrow hdD (by omega) hpv.1 hpv.2 (by omega) (fun H2 m p p1 p2 m1 m2 m5 m3 m4 => ?_)
        simp
        apply hK0; clear hK0 K
        have hmin2 := m1.all (by omega) (p := fun x => κ (g d pv) ≤ κ x) hmin
        refine L_reg [0, 1, 2, 3, 8, 9] (fun K hK => ?_)
        simp
        apply hK; clear hK K
        refine L_exit ?_
        refine ⟨b' - p, [.int .i64 (p : Nat), .int .i64 b', .int .i64 lm, .bool wb, .bool wp], by omega, by simp, p, b', lm, wb, wp, m, rfl, by omega, by omega, hbb, hlm, hS.trans (m1.wide haa hbb), fun q1 q2 h1 h2 h3 h4 => ?_, fun hp0 k k1 k2 => ?_, rfl, m3, hK.trans m4⟩
        · by_cases e : a' ≤ q1 ∧ q2 < b'
          · have e1 := m2 q1 e.1 (by omega)
            exact Int.le_trans e1 (hmin2 q2 (by omega) e.2)
          · exact (hO.mix m1 (by omega) haa hbb) q1 q2 h1 h2 h3 e
        · exact Int.le_trans (m2 (p - 1) (by omega) (by omega)) (Int.le_of_lt (m5 k k1 k2))
      · clear ht
        refine L_reg [0, 1, 2, 3, 10, 14, 15] (fun K hK0 => ?_)
        simp [okFn_low]
        refine part_ac' D κ r ver a' b' pv d n hdl H1 _ hCk hrow hdD (by omega) hpv.1 hpv.2 (by omega) (fun H2 m p bb p1 p2 m1 m2 m5 m3 m4 => ?_)
        simp
        apply hK0; clear hK0 K
        have hml : m.length = n := by rw [m1.len, hdl]
        have hS2 := hS.trans (m1.wide haa hbb)
        have hO2 := hO.mix m1 (by omega) haa hbb
        have hP2 := hP.mix m1 (by omega)
        have hK3 := hK.trans m4
        have hr3 : r < H2.length := by have := hK3.1; omega
        clear hS hO hP hrow hK hdl hdD hCk m1 m4
        clear hpv ht2 d H1
        refine L_reg [0, 1, 2, 3, 9, 10, 14] (fun K hK => ?_)
        simp
        apply hK; clear hK K
        obtain ⟨ll, hll⟩ : ∃ x : Nat, (p : Int) - a' = x := ⟨p - a', by omega⟩
        obtain ⟨rl, hrl2⟩ : ∃ x : Nat, (b' : Int) - p = x := ⟨b' - p, by omega⟩
        have hq8 : ((l : Int)).tdiv 8 = ((l / 8 : Nat) : Int) := by rw [Int.tdiv_eq_ediv_of_nonneg (by omega)]; rfl
        obtain ⟨q8, hq80⟩ : ∃ q, q = l / 8 := ⟨_, rfl⟩
        rw [← hq80] at hq8
        refine L_reg [0, 1, 2, 3, 9, 10, 14, 16, 17] (fun K hK => ?_)
        simp [hll, hrl2, wrap_i64 (a := (ll : Int)) (by omega), wrap_i64 (a := (rl : Int)) (by omega)]
        apply hK; clear hK K
        refine L_reg [0, 1, 2, 3, 9, 14, 16, 17, 18] (fun K hK => ?_)
        simp [hq8, wrap_i64 (a := (q8 : Int)) (by omega)]
        apply hK; clear hK K
        refine L_reg [0, 1, 2, 3, 9, 14, 16, 17, 18, 113] (fun K hK => ?_)
        simp
        apply hK; clear hK K
        refine L_dec (ll < rl) (by simp) (fun hlr => ?_) (fun hlr => ?_)
        · refine L_reg [0, 1, 2, 3, 8, 9, 14] (fun K hK => ?_)
          simp
          apply hK; clear hK K
          refine L_reg [0, 2, 3, 8, 9, 14] (fun K hK0 => ?_)
          simp [okFn_low]
          refine ih a' p lm m H2 _ (by omega) (hC.keep hK3) m3 hr3 (hD.perm hS2.1) hml p1 (by omega) hlm (fun h0 k k1 k2 => hP2 h0 k k1 (by omega)) (fun H3 m' s1 s2 s3 s4 => ?_)
          simp
          apply hK0; clear hK0 K
          refine L_reg [0, 1, 2, 3, 8, 9] (fun K hK => ?_)
          simp [wrap_i64 (a := (p : Int) + 1) (by omega)]
          apply hK; clear hK K
          have hm5 := s1.all (by omega) (p := fun x => κ x ≤ κ (g m p)) m2
          have hpm : g m' p = g m p := s1.2 p (by omega)
          refine ⟨b' - (p + 1), [.int .i64 (p + 1 : Nat), .int .i64 b', .int .i64 lm, .bool (decide (q8 ≤ ll)), .bool bb], by omega, by simp, p + 1, b', lm, decide (q8 ≤ ll), bb, m', rfl, by omega, by omega, hbb, hlm, hS2.trans (s1.wide haa (by omega)), fun q1 q2 h1 h2 h3 h4 => ?_, fun hp0 k k1 k2 => ?_, rfl, s3, hK3.trans s4⟩
          · by_cases e : a' ≤ q1 ∧ q2 < b'
            · by_cases e2 : q2 < p
              · exact s2 q1 q2 e.1 h2 e2
              · by_cases e3 : q2 = p
                · subst e3; rw [hpm]; exact hm5 q1 e.1 (by omega)
                · have e4 : κ (g m p) ≤ κ (g m' q2) := by rw [s1.2 q2 (by omega)]; exact m5 q2 (by omega) e.2
                  by_cases e5 : q1 = p
                  · rw [e5, hpm]; exact e4
                  · exact Int.le_trans (hm5 q1 e.1 (by omega)) e4
            · exact (hO2.mix (s1.wide (Nat.le_refl _) (by omega)) (by omega) haa hbb) q1 q2 h1 h2 h3 e
          · rw [show p + 1 - 1 = p by omega, hpm, s1.2 k (by omega)]
            exact m5 k (by omega) k2
        · refine L_reg [0, 1, 2, 3, 8, 9, 14] (fun K hK => ?_)
          simp
          apply hK; clear hK K
          refine L_reg [0, 1, 3, 8, 9, 14] (fun K hK0 => ?_)
          simp [okFn_low, wrap_i64 (a := (p : Int) + 1) (by omega)]
          refine ih (p + 1) b' lm m H2 _ (by omega) (hC.keep hK3) m3 hr3 (hD.perm hS2.1) hml (by omega) (by omega) hlm (fun h0 k k1 k2 => by rw [show p + 1 - 1 = p by omega]; exact m5 k (by omega) k2) (fun H3 m' s1 s2 s3 s4 => ?_)
          simp
          apply hK0; clear hK0 K
          refine L_reg [0, 1, 2, 3, 8, 9] (fun K hK => ?_)
          simp
          apply hK; clear hK K
          have hm5 := s1.all (by omega) (p := fun x => κ (g m p) ≤ κ x) (fun k k1 k2 => m5 k (by omega) k2)
          have hpm : g m' p = g m p := s1.2 p (by omega)
          refine ⟨p - a', [.int .i64 a', .int .i64 (p : Nat), .int .i64 lm, .bool (decide (q8 ≤ rl)), .bool bb], by omega, by simp, a', p, lm, decide (q8 ≤ rl), bb, m', rfl, by omega, by omega, by omega, hlm, hS2.trans (s1.wide (by omega) hbb), fun q1 q2 h1 h2 h3 h4 => ?_, fun hp0 k k1 k2 => ?_, rfl, s3, hK3.trans s4⟩
          · by_cases e : a' ≤ q1 ∧ q2 < b'
            · by_cases e2 : p < q1
              · exact s2 q1 q2 (by omega) h2 e.2
              · by_cases e3 : q1 = p
                · subst e3; rw [hpm]; exact hm5 q2 (by omega) e.2
                · have e4 : κ (g m' q1) ≤ κ (g m p) := by rw [s1.2 q1 (by omega)]; exact m2 q1 e.1 (by omega)
                  by_cases e5 : q2 = p
                  · rw [e5, hpm]; exact e4
                  · exact Int.le_trans e4 (hm5 q2 (by omega) e.2)
            · exact (hO2.mix (s1.wide (by omega) (Nat.le_refl _)) (by omega) haa hbb) q1 q2 h1 h2 h3 e
          · rw [s1.2 k (by omega), s1.2 (a' - 1) (by omega)]
            exact hP2 hp0 k k1 (by omega)
    by_cases hpos : 0 < a'
    · obtain ⟨a0, ha0⟩ : ∃ a0 : Nat, (a' : Int) - 1 = a0 := ⟨a' - 1, by omega⟩
      have ha0n : a' - 1 = a0 := by omega
      have hx := hrow.ld (i := a0) (by omega)
      have hy := hrow.ld (i := pv) (by omega)
      have t1 : a0 < n := by omega
      have t2 : pv < n := by omega
      simp [okFn_low, hpos, ha0, t1, t2, hx, hy, wrap_i64 (a := (a0 : Int)) (by omega)]
      refine exC_mk (fun Q hQ => hCk.2 H1 (.refl _ _) _ _ (hdD a0 (by omega)) (hdD pv (by omega)) Q hQ) ?_
      simp [pickV]
      refine hK2 _ (fun ht => ⟨hpos, fun h => ?_⟩)
      rw [ha0n] at h
      have := cmpS_neg.2 h
      simp at ht
      omega
    · have ha0 : a' = 0 := by omega
      subst ha0
      simp [pickV]
      exact hK2 false (fun h => by cases h)
  cases wb <;> cases wp <;> simp [pickV] <;> exact hK2 _
end Go.Proofs.Ytpfkioakjmpimaa.Ord

/- slices.Sort of a part of a row; slices.Equal. -/
namespace Go.Proofs.Ytpfkioakjmpimaa
open Go Go.Proofs.Ytpfkioakjmpimaa.AX
variable {sb : Bool} {tl : List AV}
theorem isNaN_ac (a : Int) (H : AH) (Q : AV → AH → Prop) (h : Q (.bool false) H) : AC Try.prog 110 [.int .i64 a] H Q := by
  refine L_body 6 Try.func110 rfl rfl ?_
  refine L_reg [0] (fun K hK => ?_)
  simp
  apply hK; clear hK K
  refine L_reg [2] (fun K hK => ?_)
  simp
  apply hK; clear hK K
  exact L_ret ⟨.inr rfl, _, rfl, by simpa using h⟩
theorem Less_ac (a b : Int) (H : AH) (Q : AV → AH → Prop) (h : Q (.bool (decide (a < b))) H) : AC Try.prog 118 [.int .i64 a, .int .i64 b] H Q := by
  refine L_body 17 Try.func118 rfl rfl ?_
  refine L_reg [0, 1] (fun K hK => ?_)
  simp
  apply hK; clear hK K
  refine L_reg [4] (fun K hK => ?_)
  simp [okFn_low]
  refine isNaN_ac a _ _ ?_
  simp [pickV]
  apply hK; clear hK K
  exact L_ret ⟨.inr rfl, _, rfl, by simpa using h⟩
theorem lessO (r : Nat) (H : AH) : Ord.CmpO (fun _ => True) (fun x => x) r H := by
  refine ⟨trivial, fun H' _ x y _ _ Q h => Less_ac x y H' Q ?_⟩
  have : decide (Ord.cmpS x y < 0) = decide (x < y) := by rw [decide_eq_decide]; exact Ord.cmpS_neg
  rw [this] at h; exact h
set_option maxRecDepth 100000 in
theorem Sort_ac (r ver : Nat) (c : List Int) (n : Nat) (hn : c.length = n) (H : AH) (Q : AV → AH → Prop) (hr : Ord.Rw tl r ver H c) (hrl : r < H.length) (hl : n ≤ 127)
    (h : ∀ (H' : AH) (m : List Int), m.Perm c → Ord.Srt (fun x => x) 0 n m → Ord.Rw tl r ver H' m → KeepX r H H' → Q (.tuple []) H') : AC Try.prog 87 [SV sb r 0 n ver] H Q := by
  refine L_body 11 Try.func87 rfl rfl ?_
  refine L_reg [0, 2] (fun K hK => ?_)
  simp
  apply hK; clear hK K
  refine L_reg [] (fun K hK0 => ?_)
  simp [okFn_low, Ord.cvA n (by omega)]
  refine Ord.Len_ac n H _ (by omega) ?_
  simp [okFn_low]
  have h7 : Ord.lenN n ≤ 7 := by
    unfold Ord.lenN
    repeat' split
    all_goals first | decide | omega
  have := Ord.pdq_ac (sb := sb) (fun _ => True) (fun x => x) r ver n hl (n + 1) 0 n (Ord.lenN n) c H (fun v H' => K [] H') (by omega) (lessO r H) hr hrl (fun _ _ => trivial) hn (by omega) (Nat.le_refl _) (by omega) (fun h0 => by omega) (fun H2 m s1 s2 s3 s4 => ?_)
  · exact this
  apply hK0; clear hK0 K
  exact ⟨.inl rfl, _, rfl, h H2 m s1.1 s2 s3 s4⟩
end Go.Proofs.Ytpfkioakjmpimaa

/- Arrangements, and what is the best one. -/
namespace Go.Proofs.Ytpfkioakjmpimaa
open Go Go.Proofs.Ytpfkioakjmpimaa.AX
namespace Arr
/-- Smaller, place by place. -/
def lx : List Int → List Int → Prop
  | a :: l, b :: m => a < b ∨ (a = b ∧ lx l m)
  | [], _ => False
  | _ :: _, [] => False
instance decLx : ∀ a b, Decidable (lx a b)
  | a :: l, b :: m => @instDecidableOr _ _ _ (@instDecidableAnd _ _ _ (decLx l m))
  | [], _ => .isFalse (by simp [lx])
  | _ :: _, [] => .isFalse (by simp [lx])
theorem lx_irr : ∀ a, ¬ lx a a
  | [] => by simp [lx]
  | a :: l => by simp only [lx]; rintro (h | ⟨-, h⟩); · omega
                 exact lx_irr l h
theorem lx_trans : ∀ {a b c : List Int}, lx a b → lx b c → lx a c
  | [], _, _, h, _ => h.elim
  | _ :: _, [], _, h, _ => h.elim
  | _ :: _, _ :: _, [], _, h => h.elim
  | a :: l, b :: m, c :: n, h, k => by
    simp only [lx] at h k ⊢
    rcases h with h | ⟨h, h'⟩ <;> rcases k with k | ⟨k, k'⟩
    · exact .inl (by omega)
    · exact .inl (by omega)
    · exact .inl (by omega)
    · exact .inr ⟨by omega, lx_trans h' k'⟩
theorem lx_tri : ∀ {a b : List Int}, a.length = b.length → lx a b ∨ a = b ∨ lx b a
  | [], [], _ => .inr (.inl rfl)
  | [], _ :: _, h => by simp at h
  | _ :: _, [], h => by simp at h
  | a :: l, b :: m, h => by
    simp only [lx]
    rcases Int.lt_trichotomy a b with e | e | e
    · exact .inl (.inl e)
    · subst e
      rcases lx_tri (a := l) (b := m) (by simpa using h) with k | k | k
      · exact .inl (.inr ⟨rfl, k⟩)
      · exact .inr (.inl (by rw [k]))
      · exact .inr (.inr (.inr ⟨rfl, k⟩))
    · exact .inr (.inr (.inl e))
def le (a b : List Int) : Prop := a = b ∨ lx a b
theorem le.refl (a : List Int) : le a a := .inl rfl
theorem le.trans {a b c : List Int} (h : le a b) (k : le b c) : le a c := by
  rcases h with rfl | h
  · exact k
  · rcases k with rfl | k
    · exact .inr h
    · exact .inr (lx_trans h k)
theorem le.anti {a b : List Int} (h : le a b) (k : le b a) : a = b := by
  rcases h with h | h
  · exact h
  · rcases k with k | k
    · exact k.symm
    · exact absurd (lx_trans h k) (lx_irr a)
theorem le_or {a b : List Int} (h : a.length = b.length) : le a b ∨ lx b a := by
  rcases lx_tri h with k | k | k
  · exact .inl (.inr k)
  · exact .inl (.inl k)
  · exact .inr k
theorem le_cons {a : Int} {l m : List Int} (h : le l m) : le (a :: l) (a :: m) := by
  rcases h with rfl | h
  · exact .inl rfl
  · exact .inr (.inr ⟨rfl, h⟩)

theorem falls_max : ∀ {l q : List Int}, l.Pairwise (· ≥ ·) → q.Perm l → le q l
  | [], q, _, h => by rw [h.eq_nil]; exact .refl _
  | a :: l, [], _, h => by simp at h
  | a :: l, b :: q, hl, h => by
    rw [List.pairwise_cons] at hl
    have hb : b ∈ a :: l := h.subset (by simp)
    have hab : b ≤ a := by
      rcases List.mem_cons.1 hb with e | e
      · omega
      · exact hl.1 b e
    rcases Int.lt_or_eq_of_le hab with e | rfl
    · exact .inr (.inl e)
    · exact le_cons (falls_max hl.2 (List.perm_cons _ |>.1 h))
theorem rises_min : ∀ {l q : List Int}, l.Pairwise (· ≤ ·) → q.Perm l → le l q
  | [], q, _, h => by rw [h.eq_nil]; exact .refl _
  | a :: l, [], _, h => by simp at h
  | a :: l, b :: q, hl, h => by
    rw [List.pairwise_cons] at hl
    have hb : b ∈ a :: l := h.subset (by simp)
    have hab : a ≤ b := by
      rcases List.mem_cons.1 hb with e | e
      · omega
      · exact hl.1 b e
    rcases Int.lt_or_eq_of_le hab with e | rfl
    · exact .inr (.inl e)
    · exact le_cons (rises_min hl.2 (List.perm_cons _ |>.1 h))
theorem perm_mid {a : Int} {l m q : List Int} (h : (a :: q).Perm (l ++ a :: m)) : q.Perm (l ++ m) :=
  (List.perm_cons a).1 (h.trans List.perm_middle)
/-- The next greater arrangement. -/
theorem next_perm {a x : Int} {u v : List Int} (hf : (u ++ x :: v).Pairwise (· ≥ ·)) (hx : a < x) (hv : ∀ y ∈ v, y ≤ a) : ∀ {pre p : List Int}, p.Perm (pre ++ a :: (u ++ x :: v)) → lx (pre ++ a :: (u ++ x :: v)) p → le (pre ++ x :: (u ++ a :: v).reverse) p
  | [], [], h, _ => by simp at h
  | [], b :: q, h, hl => by
    simp only [List.nil_append, lx] at h hl ⊢
    rcases hl with hl | ⟨rfl, hl⟩
    · have hb : b ∈ a :: (u ++ x :: v) := h.subset (by simp)
      have hxb : x ≤ b := by
        simp only [List.mem_cons, List.mem_append] at hb
        rw [List.pairwise_append] at hf
        rcases hb with rfl | hb | rfl | hb
        · omega
        · exact hf.2.2 b hb x (by simp)
        · omega
        · have := hv b hb; omega
      rcases Int.lt_or_eq_of_le hxb with e | rfl
      · exact .inr (.inl e)
      · refine le_cons (rises_min ?_ ?_)
        · rw [List.pairwise_reverse]
          rw [List.pairwise_append, List.pairwise_cons] at hf ⊢
          refine ⟨hf.1, ⟨fun y hy => hv y hy, hf.2.1.2⟩, fun y hy z hz => ?_⟩
          rcases List.mem_cons.1 hz with rfl | hz
          · have := hf.2.2 y hy x (by simp); simp only [ge_iff_le]; omega
          · exact hf.2.2 y hy z (by simp [hz])
        · have h2 : (x :: q).Perm ((a :: u) ++ x :: v) := h
          have := perm_mid h2
          exact this.trans ((List.perm_middle.symm).trans (List.reverse_perm _).symm)
    · have := falls_max hf ((List.perm_cons _).1 h)
      rcases this with rfl | this
      · exact absurd hl (lx_irr _)
      · exact absurd (lx_trans hl this) (lx_irr _)
  | d :: pre, [], h, _ => by simp at h
  | d :: pre, b :: q, h, hl => by
    simp only [List.cons_append, lx] at h hl ⊢
    rcases hl with hl | ⟨rfl, hl⟩
    · exact .inr (.inl hl)
    · exact le_cons (next_perm hf hx hv ((List.perm_cons _).1 h) hl)
theorem next_gt {a x : Int} {u v : List Int} (hx : a < x) : ∀ {pre : List Int}, lx (pre ++ a :: (u ++ x :: v)) (pre ++ x :: (u ++ a :: v).reverse)
  | [] => .inl hx
  | _ :: _ => .inr ⟨rfl, next_gt hx⟩
theorem next_is {a x : Int} {u v pre : List Int} : (pre ++ x :: (u ++ a :: v).reverse).Perm (pre ++ a :: (u ++ x :: v)) := by
  refine List.Perm.append_left pre ?_
  refine ((List.reverse_perm (u ++ a :: v)).cons x).trans ?_
  refine (List.perm_middle.cons x).trans ?_
  refine (List.Perm.swap a x _).trans ?_
  exact (List.perm_middle.symm).cons a

/-- All arrangements. -/
def ins (x : Int) : List Int → List (List Int)
  | [] => [[x]]
  | y :: l => (x :: y :: l) :: (ins x l).map (y :: ·)
def perms : List Int → List (List Int)
  | [] => [[]]
  | x :: l => (perms l).flatMap (ins x)
theorem mem_ins {x : Int} : ∀ {s t : List Int}, s ++ x :: t ∈ ins x (s ++ t)
  | [], [] => by simp [ins]
  | [], y :: t => by simp [ins]
  | y :: s, t => by simp only [List.cons_append, ins, List.mem_cons, List.mem_map]; exact .inr ⟨_, mem_ins, rfl⟩
theorem ins_perm {x : Int} : ∀ {l p : List Int}, p ∈ ins x l → p.Perm (x :: l)
  | [], p, h => by simp [ins] at h; rw [h]
  | y :: l, p, h => by
    simp only [ins, List.mem_cons, List.mem_map] at h
    rcases h with rfl | ⟨q, hq, rfl⟩
    · exact .refl _
    · exact ((ins_perm hq).cons y).trans (.swap x y l)
theorem mem_perms : ∀ {l p : List Int}, p ∈ perms l ↔ p.Perm l
  | [], p => by simp [perms]
  | x :: l, p => by
    simp only [perms, List.mem_flatMap]
    constructor
    · rintro ⟨q, h1, h2⟩
      exact (ins_perm h2).trans ((mem_perms.1 h1).cons x)
    · intro h
      have hx : x ∈ p := h.symm.subset (by simp)
      obtain ⟨s, t, rfl⟩ := List.append_of_mem hx
      exact ⟨s ++ t, mem_perms.2 (perm_mid h.symm).symm, mem_ins⟩
/-- How many arrangements come behind one. -/
def left (l c : List Int) : Nat := (perms l).countP fun p => decide (lx c p)
theorem countP_lt {α : Type} {P Q : α → Bool} : ∀ {l : List α}, (∀ x ∈ l, P x = true → Q x = true) → (∃ x ∈ l, Q x = true ∧ P x = false) → l.countP P < l.countP Q
  | [], _, h => by obtain ⟨x, h, -⟩ := h; simp at h
  | y :: l, h, hx => by
    simp only [List.countP_cons]
    have hle : l.countP P ≤ l.countP Q := List.countP_mono_left fun x hx => h x (by simp [hx])
    obtain ⟨x, hm, h1, h2⟩ := hx
    rcases List.mem_cons.1 hm with rfl | hm
    · simp only [h1, h2]; simp; omega
    · have := countP_lt (l := l) (fun x hx => h x (by simp [hx])) ⟨x, hm, h1, h2⟩
      have hy := h y (by simp)
      cases hp : P y <;> cases hq : Q y <;> simp_all <;> omega
theorem left_lt {l c d : List Int} (hd : d.Perm l) (h : lx c d) : left l d < left l c :=
  countP_lt (fun p _ hp => by simp only [decide_eq_true_eq] at hp ⊢; exact lx_trans h hp) ⟨d, mem_perms.2 hd, by simpa using h, by simpa using lx_irr d⟩

/-- Better: of lower cost, and of the same cost the first. -/
def bet (c : List Int → Int) (a b : List Int) : Prop := c a < c b ∨ (c a = c b ∧ le a b)
theorem bet.refl (c : List Int → Int) (a : List Int) : bet c a a := .inr ⟨rfl, .refl a⟩
theorem bet.trans {c : List Int → Int} {x y z : List Int} (h : bet c x y) (k : bet c y z) : bet c x z := by
  rcases h with h | ⟨h, h'⟩ <;> rcases k with k | ⟨k, k'⟩
  · exact .inl (by omega)
  · exact .inl (by omega)
  · exact .inl (by omega)
  · exact .inr ⟨by omega, h'.trans k'⟩
theorem bet.anti {c : List Int → Int} {x y : List Int} (h : bet c x y) (k : bet c y x) : x = y := by
  rcases h with h | ⟨h, h'⟩ <;> rcases k with k | ⟨k, k'⟩
  · omega
  · omega
  · omega
  · exact h'.anti k'
instance (a b : List Int) : Decidable (le a b) := inferInstanceAs (Decidable (_ ∨ _))
instance (c : List Int → Int) (a b : List Int) : Decidable (bet c a b) := inferInstanceAs (Decidable (_ ∨ _))
theorem bet_or (c : List Int → Int) {a b : List Int} (h : a.length = b.length) : bet c a b ∨ bet c b a := by
  rcases Int.lt_trichotomy (c a) (c b) with e | e | e
  · exact .inl (.inl e)
  · rcases le_or h with k | k
    · exact .inl (.inr ⟨e, k⟩)
    · exact .inr (.inr ⟨e.symm, .inr k⟩)
  · exact .inr (.inl e)
def pick (c : List Int → Int) (a b : List Int) : List Int := if bet c a b then a else b
def bestS (c : List Int → Int) (l : List Int) : List Int := (perms l).foldl (pick c) l
theorem fold_best (c : List Int → Int) {n : Nat} : ∀ (L : List (List Int)) (a : List Int), a.length = n → (∀ p ∈ L, p.length = n) → (L.foldl (pick c) a ∈ a :: L) ∧ ∀ p ∈ a :: L, bet c (L.foldl (pick c) a) p
  | [], a, _, _ => by simp [bet.refl]
  | b :: L, a, ha, hL => by
    simp only [List.foldl_cons]
    have hb : b.length = n := hL b (by simp)
    have hp : (pick c a b).length = n := by unfold pick; split <;> assumption
    have h1 : pick c a b ∈ [a, b] := by unfold pick; split <;> simp
    have h2 : bet c (pick c a b) a ∧ bet c (pick c a b) b := by
      unfold pick; split
      · exact ⟨.refl _ _, by assumption⟩
      · rename_i h; exact ⟨(bet_or c (ha.trans hb.symm)).resolve_left h, .refl _ _⟩
    obtain ⟨h3, h4⟩ := fold_best c L (pick c a b) hp fun p hp => hL p (by simp [hp])
    have h5 := h4 (pick c a b) (by simp)
    refine ⟨?_, fun p hp => ?_⟩
    · rcases List.mem_cons.1 h3 with e | e
      · rw [e]; simp at h1; simp; rcases h1 with h1 | h1 <;> simp [h1]
      · simp [e]
    · simp only [List.mem_cons] at hp
      rcases hp with rfl | rfl | hp
      · exact h5.trans h2.1
      · exact h5.trans h2.2
      · exact h4 p (by simp [hp])
def IsBest (c : List Int → Int) (l r : List Int) : Prop := r.Perm l ∧ ∀ p, p.Perm l → bet c r p
theorem best_is (c : List Int → Int) (l : List Int) : IsBest c l (bestS c l) := by
  have h := fold_best c (n := l.length) (perms l) l rfl fun p hp => (mem_perms.1 hp).length_eq
  refine ⟨?_, fun p hp => h.2 p (by simp [mem_perms.2 hp])⟩
  rcases List.mem_cons.1 h.1 with e | e
  · unfold bestS; rw [e]
  · exact mem_perms.1 e
theorem IsBest.eq {c : List Int → Int} {l r : List Int} (h : IsBest c l r) : r = bestS c l :=
  (h.2 _ (best_is c l).1).anti ((best_is c l).2 _ h.1)
theorem IsBest.perm {c : List Int → Int} {l m r : List Int} (h : IsBest c l r) (hm : m.Perm l) : IsBest c m r := ⟨h.1.trans hm.symm, fun p hp => h.2 p (hp.trans hm)⟩
/-- The way of cheapest: all up to the arrangement at hand. -/
structure Seen (c : List Int → Int) (l cur b : List Int) : Prop where
  cp : cur.Perm l
  bp : b.Perm l
  bl : le b cur
  all : ∀ p, p.Perm l → le p cur → bet c b p
theorem Seen.start {c : List Int → Int} {l s : List Int} (hs : s.Perm l) (h : s.Pairwise (· ≤ ·)) : Seen c l s s :=
  ⟨hs, hs, .refl _, fun p hp hle => by rw [hle.anti (rises_min h (hp.trans hs.symm))]; exact .refl _ _⟩
theorem Seen.done {c : List Int → Int} {l cur b : List Int} (h : Seen c l cur b) (hf : cur.Pairwise (· ≥ ·)) : b = bestS c l :=
  IsBest.eq ⟨h.bp, fun p hp => h.all p hp (falls_max hf (hp.trans h.cp.symm))⟩
theorem Seen.next {c : List Int → Int} {l cur b n : List Int} (h : Seen c l cur b) (hn : n.Perm l) (hlt : lx cur n) (hnx : ∀ p, p.Perm l → lx cur p → le n p) : Seen c l n (if c n < c b then n else b) := by
  have key : ∀ p, p.Perm l → le p n → le p cur ∨ p = n := fun p hp hle => by
    rcases le_or (a := p) (b := cur) (hp.length_eq.trans h.cp.length_eq.symm) with e | e
    · exact .inl e
    · exact .inr (hle.anti (hnx p hp e))
  split
  · rename_i hc
    refine ⟨hn, hn, .refl _, fun p hp hle => ?_⟩
    rcases key p hp hle with e | rfl
    · rcases h.all p hp e with e | ⟨e, -⟩ <;> exact .inl (by omega)
    · exact .refl _ _
  · rename_i hc
    have hbn : le b n := h.bl.trans (.inr hlt)
    refine ⟨hn, h.bp, hbn, fun p hp hle => ?_⟩
    rcases key p hp hle with e | rfl
    · exact h.all p hp e
    · rcases Int.lt_or_eq_of_le (Int.not_lt.1 hc) with e | e
      · exact .inl e
      · exact .inr ⟨e, hbn⟩
end Arr
/-! ### Steps -/
def df (a b : Int) : Int := max a b - min a b
/-- The steps of a straight row. -/
def stp (l : List Int) : List Int := (List.range (l.length - 1)).map fun i => df (g l i) (g l (i + 1))
theorem mem_stp {l : List Int} {s : Int} : s ∈ stp l ↔ ∃ i, i + 1 < l.length ∧ df (g l i) (g l (i + 1)) = s := by
  simp only [stp, List.mem_map, List.mem_range]
  constructor
  · rintro ⟨i, h, e⟩; exact ⟨i, by omega, e⟩
  · rintro ⟨i, h, e⟩; exact ⟨i, by omega, e⟩
/-- The steps of a box. -/
def stepsS (r : Bool) (l : List Int) : List Int := stp l ++ if r = true ∧ 1 < l.length then [df (g l (l.length - 1)) (g l 0)] else []
def gr (l : List Int) : Int := l.foldl max 0
theorem foldl_max_ge : ∀ (l : List Int) (a : Int), a ≤ l.foldl max a ∧ ∀ x ∈ l, x ≤ l.foldl max a
  | [], a => by simp
  | b :: l, a => by
    have h := foldl_max_ge l (max a b)
    simp only [List.foldl_cons, List.mem_cons]
    refine ⟨by omega, ?_⟩
    rintro x (rfl | hx)
    · omega
    · exact h.2 x hx
theorem gr_nn (l : List Int) : 0 ≤ gr l := (foldl_max_ge l 0).1
theorem le_gr {l : List Int} {x : Int} (h : x ∈ l) : x ≤ gr l := (foldl_max_ge l 0).2 x h
def reachS (n : Nat) (r : Bool) : Nat := if r = true ∧ 2 < n then 2 else 1
/-- How far sorted shades lie apart. -/
def risesS (r : Bool) (s : List Int) : List Int := (List.range (s.length - reachS s.length r)).map fun i => g s (i + reachS s.length r) - g s i
def stepC (r : Bool) (l : List Int) : Int := gr (stepsS r l)
def Asc (l : List Int) : Prop := ∀ i j, i ≤ j → j < l.length → g l i ≤ g l j
theorem asc_of {l : List Int} (h : l.Pairwise (· ≤ ·)) : Asc l := by
  intro i j hij hj
  rcases Nat.lt_or_eq_of_le hij with e | rfl
  · rw [g_lt (by omega), g_lt hj]; exact List.pairwise_iff_getElem.1 h i j _ _ e
  · omega
theorem gmem {l : List Int} {i : Nat} (h : i < l.length) : g l i ∈ l := by rw [g_lt h]; exact List.getElem_mem h
theorem memg {l : List Int} {x : Int} (h : x ∈ l) : ∃ i, i < l.length ∧ g l i = x := by
  obtain ⟨i, hi, e⟩ := List.getElem_of_mem h
  exact ⟨i, hi, by rw [g_lt hi, e]⟩
/-- What stays on one side. -/
theorem side {l : List Int} {A B : Int} (hs : ∀ i, i + 1 < l.length → df (g l i) (g l (i + 1)) < B - A) (hx : ∀ i, i < l.length → g l i ≤ A ∨ B ≤ g l i) (k : Nat) (hk : k < l.length) : ∀ n, k + n < l.length → (g l k ≤ A ↔ g l (k + n) ≤ A)
  | 0, _ => Iff.rfl
  | n + 1, h => by
    have h1 := side hs hx k hk n (by omega)
    have h2 := hs (k + n) (by omega)
    have h3 := hx (k + n) (by omega)
    have h4 := hx (k + n + 1) (by omega)
    rw [h1]
    unfold df at h2
    rw [show k + (n + 1) = k + n + 1 by omega]
    omega
theorem cross {l : List Int} {A B : Int} (hAB : A < B) (hx : ∀ x ∈ l, x ≤ A ∨ B ≤ x) (h1 : ∃ x ∈ l, x ≤ A) (h2 : ∃ x ∈ l, B ≤ x) : ∃ i, i + 1 < l.length ∧ B - A ≤ df (g l i) (g l (i + 1)) := by
  apply Classical.byContradiction
  intro hn
  have hs : ∀ i, i + 1 < l.length → df (g l i) (g l (i + 1)) < B - A := fun i hi => by
    rcases Int.lt_or_le (df (g l i) (g l (i + 1))) (B - A) with e | e
    · exact e
    · exact absurd ⟨i, hi, e⟩ hn
  have hx' : ∀ i, i < l.length → g l i ≤ A ∨ B ≤ g l i := fun i hi => hx _ (gmem hi)
  obtain ⟨x, hx1, e1⟩ := h1
  obtain ⟨y, hy1, e2⟩ := h2
  obtain ⟨i, hi, rfl⟩ := memg hx1
  obtain ⟨j, hj, rfl⟩ := memg hy1
  rcases Nat.le_total i j with e | e
  · have := side hs hx' i hi (j - i) (by omega)
    rw [show i + (j - i) = j by omega] at this
    omega
  · have := side hs hx' j hj (i - j) (by omega)
    rw [show j + (i - j) = i by omega] at this
    omega
/-- A straight part of a box has no steps of its own. -/
theorem round_path {pre suf : List Int} {m : Int} {i : Nat} (h : i + 1 < (suf ++ pre).length) : df (g (suf ++ pre) i) (g (suf ++ pre) (i + 1)) ∈ stepsS true (pre ++ m :: suf) := by
  simp only [List.length_append] at h
  have hL : (pre ++ m :: suf).length = pre.length + 1 + suf.length := by simp; omega
  unfold stepsS
  rw [List.mem_append, mem_stp, hL]
  rw [g_app, g_app]
  by_cases h1 : i + 1 < suf.length
  · refine .inl ⟨pre.length + 1 + i, by omega, ?_⟩
    rw [if_pos (by omega), if_pos h1, g_app, g_app, if_neg (by omega), if_neg (by omega)]
    rw [show pre.length + 1 + i - pre.length = i + 1 by omega, show pre.length + 1 + i + 1 - pre.length = i + 1 + 1 by omega]
    rfl
  · by_cases h2 : i < suf.length
    · rw [if_pos h2, if_neg h1, if_pos (show true = true ∧ 1 < pre.length + 1 + suf.length from ⟨rfl, by omega⟩)]
      refine .inr ?_
      rw [g_app, g_app, if_neg (by omega), if_pos (by omega), List.mem_singleton]
      rw [show pre.length + 1 + suf.length - 1 - pre.length = i + 1 by omega, show i + 1 - suf.length = 0 by omega]
      rfl
    · refine .inl ⟨i - suf.length, by omega, ?_⟩
      rw [if_neg h2, if_neg h1, g_app, g_app, if_pos (by omega), if_pos (by omega), show i + 1 - suf.length = i - suf.length + 1 by omega]
/-- No arrangement is below what two sorted shades prove. -/
theorem lower {r : Bool} {l s p : List Int} (hs : s.Pairwise (· ≤ ·)) (hsl : s.Perm l) (hp : p.Perm l) {i : Nat} (hi : i + reachS s.length r < s.length) : g s (i + reachS s.length r) - g s i ≤ stepC r p := by
  have hps : p.Perm s := hp.trans hsl.symm
  have hA := asc_of hs
  rcases Int.lt_or_le (g s i) (g s (i + reachS s.length r)) with hlt | hle
  case inr => have := gr_nn (stepsS r p); unfold stepC; omega
  unfold reachS at *
  split at hi
  · rename_i hc
    rw [if_pos hc] at hlt ⊢
    obtain ⟨rfl, hc⟩ := hc
    have hm : g s (i + 1) ∈ p := hps.mem_iff.2 (gmem (by omega))
    obtain ⟨pre, suf, rfl⟩ := List.append_of_mem hm
    have hd : s.Perm (g s (i + 1) :: (suf ++ pre)) := hps.symm.trans (List.perm_middle.trans (List.perm_append_comm.cons _))
    have hs2 : s.Perm (g s (i + 1) :: (s.take (i + 1) ++ s.drop (i + 2))) := by
      have e : s = s.take (i + 1) ++ g s (i + 1) :: s.drop (i + 2) := by
        have h1 : i + 1 < s.length := by omega
        rw [g_lt h1]
        rw [← List.drop_eq_getElem_cons h1, List.take_append_drop]
      exact (List.Perm.of_eq e).trans List.perm_middle
    have hq : (suf ++ pre).Perm (s.take (i + 1) ++ s.drop (i + 2)) := (List.perm_cons _).1 (hd.symm.trans hs2)
    obtain ⟨k, hk, hle⟩ := cross (l := suf ++ pre) (A := g s i) (B := g s (i + 2)) hlt (fun x hx => by
        rcases List.mem_append.1 (hq.mem_iff.1 hx) with hx | hx
        · obtain ⟨j, hj, rfl⟩ := memg hx
          simp at hj
          rw [g_take (by omega)]; exact .inl (hA _ _ (by omega) (by omega))
        · obtain ⟨j, hj, rfl⟩ := memg hx
          simp at hj
          rw [g_drop]; exact .inr (hA _ _ (by omega) (by omega)))
      ⟨g s i, hq.mem_iff.2 (List.mem_append.2 (.inl (by rw [← g_take (show i < i + 1 by omega)]; exact gmem (by simp; omega)))), Int.le_refl _⟩
      ⟨g s (i + 2), hq.mem_iff.2 (List.mem_append.2 (.inr (by have := g_drop s (i + 2) 0; rw [Nat.add_zero] at this; rw [← this]; exact gmem (by simp; omega)))), Int.le_refl _⟩
    exact Int.le_trans hle (le_gr (round_path hk))
  · rename_i hc
    rw [if_neg hc] at hlt ⊢
    obtain ⟨k, hk, hle⟩ := cross (l := p) (A := g s i) (B := g s (i + 1)) hlt (fun x hx => by
        obtain ⟨j, hj, rfl⟩ := memg (hps.mem_iff.1 hx)
        rcases Nat.lt_or_ge i j with e | e
        · exact .inr (hA _ _ (by omega) hj)
        · exact .inl (hA _ _ e (by omega)))
      ⟨g s i, hps.mem_iff.2 (gmem (by omega)), Int.le_refl _⟩ ⟨g s (i + 1), hps.mem_iff.2 (gmem (by omega)), Int.le_refl _⟩
    refine Int.le_trans hle (le_gr ?_)
    unfold stepsS
    exact List.mem_append.2 (.inl (mem_stp.2 ⟨k, hk, rfl⟩))
/-- Every second one. -/
def ev : List Int → List Int
  | [] => []
  | [a] => [a]
  | a :: _ :: l => a :: ev l
def od : List Int → List Int
  | [] => []
  | [_] => []
  | _ :: b :: l => b :: od l
def zig (l : List Int) : List Int := ev l ++ (od l).reverse
theorem g_rev {l : List Int} {i : Nat} (h : i < l.length) : g l.reverse i = g l (l.length - 1 - i) := by
  rw [g_lt (by simpa using h), g_lt (by omega), List.getElem_reverse]
end Go.Proofs.Ytpfkioakjmpimaa
