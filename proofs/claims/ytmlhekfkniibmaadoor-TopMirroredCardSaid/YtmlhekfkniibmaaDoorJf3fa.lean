/- Joined texts: Base, TF, Perm, Seats, App, Orders, Refs, Pub, Cnt, Lcm, Chk, SrtM, OSort1, OSort2, OSort3, OPart, OPart2, OHeap, OHeap2, OBrk. -/
import Derived.Test.YtmlhekfkniibmaaDoorChecked
import Derived.Test.YtmlhekfkniibmaaDoorAxQ
import Derived.Test.YtmlhekfkniibmaaDoorAxR
/- What is run, and what is kept between its statements. -/
namespace Go.Proofs.YtmlhekfkniibmaaDoor
open Go Go.Proofs.YtmlhekfkniibmaaDoor.AX Go.RowKit
set_option maxRecDepth 100000

def keepT (f : Nat) : List Nat :=
  bif Nat.ble f 62 then bif Nat.ble f 31 then bif Nat.ble f 15 then bif Nat.ble f 7 then bif Nat.ble f 3 then bif Nat.ble f 1 then bif Nat.ble f 0 then [] else [] else bif Nat.ble f 2 then [] else [0, 1, 4, 5, 6, 7, 8, 9, 10, 11, 12, 13, 14, 15, 16, 17, 18, 19, 20, 21, 22, 23, 42, 80, 81, 82, 83, 93] else bif Nat.ble f 5 then bif Nat.ble f 4 then [0, 1, 2, 6, 7, 8, 9, 10, 11, 12, 13, 14, 15, 16, 17, 18, 20, 21, 23, 64, 88, 91, 113, 114, 115, 116, 117, 120, 121, 122, 123, 137] else [0, 2, 3, 6] else bif Nat.ble f 6 then [0, 1, 4, 5, 6, 11] else [0, 1, 2, 6, 7, 8, 14] else bif Nat.ble f 11 then bif Nat.ble f 9 then bif Nat.ble f 8 then [0, 2, 3, 4, 5, 6, 8, 14, 15, 16, 17] else [0, 1, 4, 5, 6, 12] else bif Nat.ble f 10 then [0, 1, 2] else [0, 1, 2, 5, 6, 7, 8, 9, 10, 11, 12, 13, 23, 26] else bif Nat.ble f 13 then bif Nat.ble f 12 then [0, 1, 4, 5, 6, 8, 12, 14, 15, 16, 17, 26, 29] else [0, 1, 2, 3, 4, 5, 6, 11] else bif Nat.ble f 14 then [0, 1, 2, 6, 7, 8, 14] else [0, 1, 2, 6, 7, 8, 14] else bif Nat.ble f 23 then bif Nat.ble f 19 then bif Nat.ble f 17 then bif Nat.ble f 16 then [0, 2] else [0, 2, 3, 4, 5, 6, 7] else bif Nat.ble f 18 then [0, 1, 4, 15] else [0, 1, 4, 5, 6, 10, 11, 12] else bif Nat.ble f 21 then bif Nat.ble f 20 then [0, 1, 2, 6, 7, 12, 17] else [0, 1, 4, 5, 7, 8, 9, 16] else bif Nat.ble f 22 then [0, 2, 3, 4, 5, 6, 7, 9, 13, 18, 19, 20, 21, 28, 29, 30, 31, 36] else [0, 2, 4, 5, 7, 8, 9, 10, 11, 17, 20, 21, 22, 23, 32] else bif Nat.ble f 27 then bif Nat.ble f 25 then bif Nat.ble f 24 then [0, 1, 4, 5, 6, 7, 8, 9, 10, 12, 13, 14, 19] else [0, 1, 4] else bif Nat.ble f 26 then [0, 1, 2, 3, 6] else [0, 1, 4, 5, 10, 12, 13, 14, 24] else bif Nat.ble f 29 then bif Nat.ble f 28 then [0, 2] else [0, 1, 2] else bif Nat.ble f 30 then [0, 2, 8] else [0, 1, 4, 5, 6, 9, 10, 11, 12, 13, 20, 31] else bif Nat.ble f 47 then bif Nat.ble f 39 then bif Nat.ble f 35 then bif Nat.ble f 33 then bif Nat.ble f 32 then [0, 2, 3, 4, 5, 6, 7, 13] else [0, 1, 2, 4] else bif Nat.ble f 34 then [0, 1, 2, 6, 7] else [0, 1, 2, 6, 7, 8, 13, 19, 25] else bif Nat.ble f 37 then bif Nat.ble f 36 then [0, 1, 4] else [0, 1, 4, 5, 10] else bif Nat.ble f 38 then [0, 2, 3, 4, 7, 8, 9] else [0, 1, 4, 5, 6] else bif Nat.ble f 43 then bif Nat.ble f 41 then bif Nat.ble f 40 then [0, 1, 4] else [0, 1, 4] else bif Nat.ble f 42 then [0, 2, 3, 5, 8, 11, 12, 13, 14, 15, 25, 28] else [0, 2, 3, 4, 5, 6, 7, 8, 9] else bif Nat.ble f 45 then bif Nat.ble f 44 then [0, 1, 2, 3, 6] else [0, 1, 2, 6, 7, 8, 13, 23] else bif Nat.ble f 46 then [0, 1, 2, 3, 4] else [0, 2] else bif Nat.ble f 55 then bif Nat.ble f 51 then bif Nat.ble f 49 then bif Nat.ble f 48 then [0, 1, 4, 5, 10, 12, 13, 14, 24] else [0, 1, 3, 4] else bif Nat.ble f 50 then [0, 2, 3, 9] else [0, 1, 4, 5, 9, 17] else bif Nat.ble f 53 then bif Nat.ble f 52 then [0, 1, 4, 5, 8] else [0, 1, 2, 5, 6, 7, 10, 11, 13] else bif Nat.ble f 54 then [0, 1, 4, 5, 6, 11] else [0, 1, 3, 4, 5, 6, 7, 8, 9, 10, 15, 20, 26, 27, 28, 29] else bif Nat.ble f 59 then bif Nat.ble f 57 then bif Nat.ble f 56 then [0, 1, 2, 3, 8, 9, 10, 11, 12, 13, 14, 15, 16, 17, 18, 23, 29, 35, 50, 68, 72, 87, 113] else [0, 2] else bif Nat.ble f 58 then [0, 1, 4, 5, 6, 7, 12, 19, 29] else [0, 2, 3] else bif Nat.ble f 61 then bif Nat.ble f 60 then [0, 1, 3] else [0, 1, 4] else [0, 1, 2, 3, 4] else bif Nat.ble f 93 then bif Nat.ble f 78 then bif Nat.ble f 70 then bif Nat.ble f 66 then bif Nat.ble f 64 then bif Nat.ble f 63 then [0, 1, 4, 5, 7, 11, 16, 17, 18, 19, 20, 26] else [0, 1, 4, 5, 6, 7, 8, 9, 13, 14, 15, 16] else bif Nat.ble f 65 then [0, 1, 4, 5, 9, 16] else [0, 1, 4] else bif Nat.ble f 68 then bif Nat.ble f 67 then [0, 2, 4] else [0, 1, 2, 6, 15] else bif Nat.ble f 69 then [0, 1, 2, 3, 5] else [0, 1, 2, 6, 7, 12, 30] else bif Nat.ble f 74 then bif Nat.ble f 72 then bif Nat.ble f 71 then [0, 1, 2, 6, 7, 8, 9, 10, 19, 30] else [0, 1, 2, 6, 7, 8, 9, 10, 15, 33, 43] else bif Nat.ble f 73 then [0, 1, 2, 6, 7, 8, 9, 10, 11, 12, 32, 34, 49, 51, 54] else [0, 1, 2, 6, 7, 13] else bif Nat.ble f 76 then bif Nat.ble f 75 then [0, 1, 2, 6, 7, 8, 9, 10, 14, 32, 37, 41, 61, 65, 78, 98, 103, 116] else [0, 1, 4] else bif Nat.ble f 77 then [0, 1, 2, 3, 8, 9, 10, 43, 59, 64] else [0, 1, 2, 3, 8, 9, 10, 11, 43, 60, 65, 112, 129, 134] else bif Nat.ble f 86 then bif Nat.ble f 82 then bif Nat.ble f 80 then bif Nat.ble f 79 then [0, 2, 4, 8] else [0, 2, 4, 8, 14] else bif Nat.ble f 81 then [0, 1, 4, 5, 7, 8, 9, 16] else [0, 1, 2] else bif Nat.ble f 84 then bif Nat.ble f 83 then [0, 1, 2, 3, 4, 8, 20, 28, 37] else [0, 2, 8] else bif Nat.ble f 85 then [0, 1, 4] else [0, 1, 2, 6, 7, 11, 17] else bif Nat.ble f 90 then bif Nat.ble f 88 then bif Nat.ble f 87 then [0, 2, 3, 5, 7, 8] else [0, 2, 4, 5, 8, 9, 10, 11, 12, 21] else bif Nat.ble f 89 then [0, 1, 4, 5, 16] else [0, 1, 2, 3, 8, 9, 16, 36, 52] else bif Nat.ble f 92 then bif Nat.ble f 91 then [0, 2] else [0, 2] else [0, 1, 2, 6] else bif Nat.ble f 109 then bif Nat.ble f 101 then bif Nat.ble f 97 then bif Nat.ble f 95 then bif Nat.ble f 94 then [0, 1, 2, 3, 4, 10] else [0, 2] else bif Nat.ble f 96 then [0, 1, 2, 3, 4, 8] else [0, 1, 4] else bif Nat.ble f 99 then bif Nat.ble f 98 then [0, 1, 4, 12, 15] else [0, 1, 2, 3, 6] else bif Nat.ble f 100 then [0, 1, 2, 5] else [0, 1, 2, 3, 8, 9, 18] else bif Nat.ble f 105 then bif Nat.ble f 103 then bif Nat.ble f 102 then [0, 2] else [0, 1, 2, 4, 5, 7, 8, 9, 10, 11, 25] else bif Nat.ble f 104 then [] else [] else bif Nat.ble f 107 then bif Nat.ble f 106 then [] else [] else bif Nat.ble f 108 then [] else [] else bif Nat.ble f 117 then bif Nat.ble f 113 then bif Nat.ble f 111 then bif Nat.ble f 110 then [] else [] else bif Nat.ble f 112 then [] else [] else bif Nat.ble f 115 then bif Nat.ble f 114 then [] else [] else bif Nat.ble f 116 then [] else [] else bif Nat.ble f 121 then bif Nat.ble f 119 then bif Nat.ble f 118 then [] else [] else bif Nat.ble f 120 then [] else [0, 1, 2, 4] else bif Nat.ble f 123 then bif Nat.ble f 122 then [0, 1, 4] else [0, 1, 4] else []

def goodT (f : Nat) : Bool := (Nat.ble 3 f && Nat.ble f 103) || (Nat.ble 119 f && Nat.ble f 123)

noncomputable def cx : Cx Tryd.prog where
  good := goodT
  keep := keepT
  ext _ _ _ := none

theorem okAll : (List.range 104).all (fun f => !(Nat.ble 3 f) || okFn Tryd.prog f) = true := by kernel_rfl
theorem okFn_low {f : Nat} (h3 : 3 ≤ f) (h : f ≤ 103) : okFn Tryd.prog f = true := by
  have := (List.all_eq_true.1 okAll) f (List.mem_range.2 (by omega))
  have h1 : Nat.ble 3 f = true := Nat.ble_eq_true_of_le h3
  simpa [h1] using this

theorem goodAll : (List.range 124).all (fun f => !goodT f || fnOrd Tryd.prog f) = true := by kernel_rfl

theorem cx_ok : cx.Ok where
  mixed := by kernel_rfl
  ord f h := by
    have hlt : f < 124 := by
      simp only [cx, goodT, Bool.or_eq_true, Bool.and_eq_true] at h
      rcases h with h | h
      · exact Nat.lt_of_le_of_lt (Nat.le_of_ble_eq_true h.2) (by decide)
      · exact Nat.lt_of_le_of_lt (Nat.le_of_ble_eq_true h.2) (by decide)
    have := (List.all_eq_true.1 goodAll) f (List.mem_range.2 hlt)
    have hg : goodT f = true := h
    rw [hg] at this
    simpa using this
  ext f args H v H' h := by cases h
theorem mixed : Tryd.prog.follows .mixedOrders = true := by kernel_rfl
end Go.Proofs.YtmlhekfkniibmaaDoor

/- What the steps ask of the types of this program. -/
namespace Go.Proofs.YtmlhekfkniibmaaDoor
open Go Go.Proofs.YtmlhekfkniibmaaDoor.AX
@[simp] theorem ld3 (H : AH) (r off ver : Nat) : loadV Tryd.prog 3 H (.ptr r off ver) = ld H r off ver := ld_sc (by kernel_rfl) ..
theorem sc3 : scal Tryd.prog 3 = true := by kernel_rfl
theorem zt3 : zeroT Tryd.prog 3 = some [.int .i64 0] := by kernel_rfl
@[simp] theorem ld4 (H : AH) (r off ver : Nat) : loadV Tryd.prog 4 H (.ptr r off ver) = ld H r off ver := ld_sc (by kernel_rfl) ..
theorem sc4 : scal Tryd.prog 4 = true := by kernel_rfl
theorem zt4 : zeroT Tryd.prog 4 = some [.bool false] := by kernel_rfl
@[simp] theorem ld9 (H : AH) (r off ver : Nat) : loadV Tryd.prog 9 H (.ptr r off ver) = ld H r off ver := ld_sc (by kernel_rfl) ..
theorem sc9 : scal Tryd.prog 9 = true := by kernel_rfl
theorem zt9 : zeroT Tryd.prog 9 = some [.str []] := by kernel_rfl
@[simp] theorem ld26 (H : AH) (r off ver : Nat) : loadV Tryd.prog 26 H (.ptr r off ver) = ld H r off ver := ld_sc (by kernel_rfl) ..
theorem sc26 : scal Tryd.prog 26 = true := by kernel_rfl
theorem slz26 : slSz Tryd.prog 26 = some 1 := by kernel_rfl
@[simp] theorem len26 (r : Option Nat) (off len ver sz : Nat) (full : Bool) : aLen Tryd.prog 26 (.slice r off len ver sz full) = some (.int .i64 len) := len_sl slz26 ..
@[simp] theorem lenp26 (r off len ver sz : Nat) : aLen Tryd.prog 26 (.part r off len ver sz) = some (.int .i64 len) := len_part slz26 ..
@[simp] theorem ixa26 (r off len ver : Nat) (full : Bool) (k : IntKind) (i : Int) : aIndexAddr Tryd.prog 26 (.slice (some r) off len ver 1 full) (.int k i) = if 0 ≤ i ∧ i < len then some (.ptr r (off + i.toNat * 1) ver) else none := ixa_sl slz26 ..
@[simp] theorem ixap26 (r off len ver : Nat) (k : IntKind) (i : Int) : aIndexAddr Tryd.prog 26 (.part r off len ver 1) (.int k i) = if 0 ≤ i ∧ i < len then some (.ptr r (off + i.toNat * 1) ver) else none := ixa_part slz26 ..
theorem el26 : elT Tryd.prog 26 = true := by kernel_rfl
theorem elz26 : elZ Tryd.prog 26 = some (.int .i64 0) := by kernel_rfl
@[simp] theorem row26 (H : AH) (b : Int) : rowV Tryd.prog 26 1 [(0, .int .i64 b)] H = some (some (.slice (some H.length) 0 1 0 1 false), H ++ [.row [.int .i64 b] 0 1 false]) := row1 el26 rfl rfl
theorem zt26 : zeroT Tryd.prog 26 = some [.slice none 0 0 0 1 false] := by kernel_rfl
@[simp] theorem ld32 (H : AH) (r off ver : Nat) : loadV Tryd.prog 32 H (.ptr r off ver) = ld H r off ver := ld_sc (by kernel_rfl) ..
theorem sc32 : scal Tryd.prog 32 = true := by kernel_rfl
theorem slz32 : slSz Tryd.prog 32 = some 2 := by kernel_rfl
@[simp] theorem len32 (r : Option Nat) (off len ver sz : Nat) (full : Bool) : aLen Tryd.prog 32 (.slice r off len ver sz full) = some (.int .i64 len) := len_sl slz32 ..
@[simp] theorem lenp32 (r off len ver sz : Nat) : aLen Tryd.prog 32 (.part r off len ver sz) = some (.int .i64 len) := len_part slz32 ..
@[simp] theorem ixa32 (r off len ver : Nat) (full : Bool) (k : IntKind) (i : Int) : aIndexAddr Tryd.prog 32 (.slice (some r) off len ver 2 full) (.int k i) = if 0 ≤ i ∧ i < len then some (.ptr r (off + i.toNat * 2) ver) else none := ixa_sl slz32 ..
@[simp] theorem ixap32 (r off len ver : Nat) (k : IntKind) (i : Int) : aIndexAddr Tryd.prog 32 (.part r off len ver 2) (.int k i) = if 0 ≤ i ∧ i < len then some (.ptr r (off + i.toNat * 2) ver) else none := ixa_part slz32 ..
theorem zt32 : zeroT Tryd.prog 32 = some [.slice none 0 0 0 1 false] := by kernel_rfl
@[simp] theorem ld43 (H : AH) (r off ver : Nat) : loadV Tryd.prog 43 H (.ptr r off ver) = ld H r off ver := ld_sc (by kernel_rfl) ..
theorem sc43 : scal Tryd.prog 43 = true := by kernel_rfl
theorem zt43 : zeroT Tryd.prog 43 = some [.nilfunc] := by kernel_rfl
@[simp] theorem ld52 (H : AH) (r off ver : Nat) : loadV Tryd.prog 52 H (.ptr r off ver) = ld H r off ver := ld_sc (by kernel_rfl) ..
theorem sc52 : scal Tryd.prog 52 = true := by kernel_rfl
theorem zt52 : zeroT Tryd.prog 52 = some [.nilfunc] := by kernel_rfl
theorem ar54 : arSz Tryd.prog 54 = some (7, 1) := by kernel_rfl
@[simp] theorem ixa54 (r off ver : Nat) (k : IntKind) (i : Int) : aIndexAddr Tryd.prog 54 (.ptr r off ver) (.int k i) = if 0 ≤ i ∧ i < (7 : Nat) then some (.ptr r (off + i.toNat * 1) ver) else none := ixa_ar ar54 ..
theorem ag54 : aggSz Tryd.prog 54 = some 7 := by kernel_rfl
@[simp] theorem ld54 (H : AH) (r off ver : Nat) : loadV Tryd.prog 54 H (.ptr r off ver) = (ldn H r ver 7 off).map .agg := load_agg ag54 ..
theorem zt54 : zeroT Tryd.prog 54 = some [.int .i64 0, .int .i64 0, .int .i64 0, .int .i64 0, .int .i64 0, .int .i64 0, .int .i64 0] := by kernel_rfl
theorem ag56 : aggSz Tryd.prog 56 = some 14 := by kernel_rfl
@[simp] theorem ld56 (H : AH) (r off ver : Nat) : loadV Tryd.prog 56 H (.ptr r off ver) = (ldn H r ver 14 off).map .agg := load_agg ag56 ..
@[simp] theorem fa56_0 (r off ver : Nat) : aFieldAddr Tryd.prog 56 (.ptr r off ver) 0 = some (.ptr r (off + 0) ver) := fld_ptr (by kernel_rfl) ..
@[simp] theorem fa56_1 (r off ver : Nat) : aFieldAddr Tryd.prog 56 (.ptr r off ver) 1 = some (.ptr r (off + 7) ver) := fld_ptr (by kernel_rfl) ..
theorem zt56 : zeroT Tryd.prog 56 = some [.int .i64 0, .int .i64 0, .int .i64 0, .int .i64 0, .int .i64 0, .int .i64 0, .int .i64 0, .int .i64 0, .int .i64 0, .int .i64 0, .int .i64 0, .int .i64 0, .int .i64 0, .int .i64 0] := by kernel_rfl
@[simp] theorem ld66 (H : AH) (r off ver : Nat) : loadV Tryd.prog 66 H (.ptr r off ver) = ld H r off ver := ld_sc (by kernel_rfl) ..
theorem sc66 : scal Tryd.prog 66 = true := by kernel_rfl
theorem slz66 : slSz Tryd.prog 66 = some 1 := by kernel_rfl
@[simp] theorem len66 (r : Option Nat) (off len ver sz : Nat) (full : Bool) : aLen Tryd.prog 66 (.slice r off len ver sz full) = some (.int .i64 len) := len_sl slz66 ..
@[simp] theorem lenp66 (r off len ver sz : Nat) : aLen Tryd.prog 66 (.part r off len ver sz) = some (.int .i64 len) := len_part slz66 ..
@[simp] theorem ixa66 (r off len ver : Nat) (full : Bool) (k : IntKind) (i : Int) : aIndexAddr Tryd.prog 66 (.slice (some r) off len ver 1 full) (.int k i) = if 0 ≤ i ∧ i < len then some (.ptr r (off + i.toNat * 1) ver) else none := ixa_sl slz66 ..
@[simp] theorem ixap66 (r off len ver : Nat) (k : IntKind) (i : Int) : aIndexAddr Tryd.prog 66 (.part r off len ver 1) (.int k i) = if 0 ≤ i ∧ i < len then some (.ptr r (off + i.toNat * 1) ver) else none := ixa_part slz66 ..
theorem el66 : elT Tryd.prog 66 = true := by kernel_rfl
theorem elz66 : elZ Tryd.prog 66 = some (.int .i64 0) := by kernel_rfl
@[simp] theorem row66 (H : AH) (b : Int) : rowV Tryd.prog 66 1 [(0, .int .i64 b)] H = some (some (.slice (some H.length) 0 1 0 1 false), H ++ [.row [.int .i64 b] 0 1 false]) := row1 el66 rfl rfl
theorem zt66 : zeroT Tryd.prog 66 = some [.slice none 0 0 0 1 false] := by kernel_rfl
@[simp] theorem ld69 (H : AH) (r off ver : Nat) : loadV Tryd.prog 69 H (.ptr r off ver) = ld H r off ver := ld_sc (by kernel_rfl) ..
theorem sc69 : scal Tryd.prog 69 = true := by kernel_rfl
theorem slz69 : slSz Tryd.prog 69 = some 1 := by kernel_rfl
@[simp] theorem len69 (r : Option Nat) (off len ver sz : Nat) (full : Bool) : aLen Tryd.prog 69 (.slice r off len ver sz full) = some (.int .i64 len) := len_sl slz69 ..
@[simp] theorem lenp69 (r off len ver sz : Nat) : aLen Tryd.prog 69 (.part r off len ver sz) = some (.int .i64 len) := len_part slz69 ..
@[simp] theorem ixa69 (r off len ver : Nat) (full : Bool) (k : IntKind) (i : Int) : aIndexAddr Tryd.prog 69 (.slice (some r) off len ver 1 full) (.int k i) = if 0 ≤ i ∧ i < len then some (.ptr r (off + i.toNat * 1) ver) else none := ixa_sl slz69 ..
@[simp] theorem ixap69 (r off len ver : Nat) (k : IntKind) (i : Int) : aIndexAddr Tryd.prog 69 (.part r off len ver 1) (.int k i) = if 0 ≤ i ∧ i < len then some (.ptr r (off + i.toNat * 1) ver) else none := ixa_part slz69 ..
theorem el69 : elT Tryd.prog 69 = true := by kernel_rfl
theorem elz69 : elZ Tryd.prog 69 = some (.slice none 0 0 0 1 false) := by kernel_rfl
theorem zt69 : zeroT Tryd.prog 69 = some [.slice none 0 0 0 1 false] := by kernel_rfl
theorem ar70 : arSz Tryd.prog 70 = some (2, 1) := by kernel_rfl
@[simp] theorem ixa70 (r off ver : Nat) (k : IntKind) (i : Int) : aIndexAddr Tryd.prog 70 (.ptr r off ver) (.int k i) = if 0 ≤ i ∧ i < (2 : Nat) then some (.ptr r (off + i.toNat * 1) ver) else none := ixa_ar ar70 ..
theorem ag70 : aggSz Tryd.prog 70 = some 2 := by kernel_rfl
@[simp] theorem ld70 (H : AH) (r off ver : Nat) : loadV Tryd.prog 70 H (.ptr r off ver) = (ldn H r ver 2 off).map .agg := load_agg ag70 ..
theorem zt70 : zeroT Tryd.prog 70 = some [.int .i64 0, .int .i64 0] := by kernel_rfl
theorem ar76 : arSz Tryd.prog 76 = some (7, 1) := by kernel_rfl
@[simp] theorem ixa76 (r off ver : Nat) (k : IntKind) (i : Int) : aIndexAddr Tryd.prog 76 (.ptr r off ver) (.int k i) = if 0 ≤ i ∧ i < (7 : Nat) then some (.ptr r (off + i.toNat * 1) ver) else none := ixa_ar ar76 ..
theorem ag76 : aggSz Tryd.prog 76 = some 7 := by kernel_rfl
@[simp] theorem ld76 (H : AH) (r off ver : Nat) : loadV Tryd.prog 76 H (.ptr r off ver) = (ldn H r ver 7 off).map .agg := load_agg ag76 ..
theorem zt76 : zeroT Tryd.prog 76 = some [.bool false, .bool false, .bool false, .bool false, .bool false, .bool false, .bool false] := by kernel_rfl
theorem ag81 : aggSz Tryd.prog 81 = some 2 := by kernel_rfl
@[simp] theorem ld81 (H : AH) (r off ver : Nat) : loadV Tryd.prog 81 H (.ptr r off ver) = (ldn H r ver 2 off).map .agg := load_agg ag81 ..
@[simp] theorem fa81_0 (r off ver : Nat) : aFieldAddr Tryd.prog 81 (.ptr r off ver) 0 = some (.ptr r (off + 0) ver) := fld_ptr (by kernel_rfl) ..
@[simp] theorem fa81_1 (r off ver : Nat) : aFieldAddr Tryd.prog 81 (.ptr r off ver) 1 = some (.ptr r (off + 1) ver) := fld_ptr (by kernel_rfl) ..
@[simp] theorem built81 (x0 x1 : Int) : aBuilt Tryd.prog 81 [(0, .int .i64 x0), (1, .int .i64 x1)] = some [.int .i64 x0, .int .i64 x1] := by kernel_rfl
theorem zt81 : zeroT Tryd.prog 81 = some [.int .i64 0, .int .i64 0] := by kernel_rfl
@[simp] theorem ld82 (H : AH) (r off ver : Nat) : loadV Tryd.prog 82 H (.ptr r off ver) = ld H r off ver := ld_sc (by kernel_rfl) ..
theorem sc82 : scal Tryd.prog 82 = true := by kernel_rfl
theorem slz82 : slSz Tryd.prog 82 = some 2 := by kernel_rfl
@[simp] theorem len82 (r : Option Nat) (off len ver sz : Nat) (full : Bool) : aLen Tryd.prog 82 (.slice r off len ver sz full) = some (.int .i64 len) := len_sl slz82 ..
@[simp] theorem lenp82 (r off len ver sz : Nat) : aLen Tryd.prog 82 (.part r off len ver sz) = some (.int .i64 len) := len_part slz82 ..
@[simp] theorem ixa82 (r off len ver : Nat) (full : Bool) (k : IntKind) (i : Int) : aIndexAddr Tryd.prog 82 (.slice (some r) off len ver 2 full) (.int k i) = if 0 ≤ i ∧ i < len then some (.ptr r (off + i.toNat * 2) ver) else none := ixa_sl slz82 ..
@[simp] theorem ixap82 (r off len ver : Nat) (k : IntKind) (i : Int) : aIndexAddr Tryd.prog 82 (.part r off len ver 2) (.int k i) = if 0 ≤ i ∧ i < len then some (.ptr r (off + i.toNat * 2) ver) else none := ixa_part slz82 ..
theorem zt82 : zeroT Tryd.prog 82 = some [.slice none 0 0 0 1 false] := by kernel_rfl
@[simp] theorem ld85 (H : AH) (r off ver : Nat) : loadV Tryd.prog 85 H (.ptr r off ver) = ld H r off ver := ld_sc (by kernel_rfl) ..
theorem sc85 : scal Tryd.prog 85 = true := by kernel_rfl
theorem zt85 : zeroT Tryd.prog 85 = some [.int .u64 0] := by kernel_rfl
@[simp] theorem ld105 (H : AH) (r off ver : Nat) : loadV Tryd.prog 105 H (.ptr r off ver) = ld H r off ver := ld_sc (by kernel_rfl) ..
theorem sc105 : scal Tryd.prog 105 = true := by kernel_rfl
theorem zt105 : zeroT Tryd.prog 105 = some [.int .u32 0] := by kernel_rfl
@[simp] theorem ld107 (H : AH) (r off ver : Nat) : loadV Tryd.prog 107 H (.ptr r off ver) = ld H r off ver := ld_sc (by kernel_rfl) ..
theorem sc107 : scal Tryd.prog 107 = true := by kernel_rfl
theorem zt107 : zeroT Tryd.prog 107 = some [.int .u64 0] := by kernel_rfl
@[simp] theorem ld109 (H : AH) (r off ver : Nat) : loadV Tryd.prog 109 H (.ptr r off ver) = ld H r off ver := ld_sc (by kernel_rfl) ..
theorem sc109 : scal Tryd.prog 109 = true := by kernel_rfl
theorem zt109 : zeroT Tryd.prog 109 = some [.nilfunc] := by kernel_rfl
theorem ag111 : aggSz Tryd.prog 111 = some 2 := by kernel_rfl
@[simp] theorem ld111 (H : AH) (r off ver : Nat) : loadV Tryd.prog 111 H (.ptr r off ver) = (ldn H r ver 2 off).map .agg := load_agg ag111 ..
@[simp] theorem fa111_0 (r off ver : Nat) : aFieldAddr Tryd.prog 111 (.ptr r off ver) 0 = some (.ptr r (off + 0) ver) := fld_ptr (by kernel_rfl) ..
@[simp] theorem fa111_1 (r off ver : Nat) : aFieldAddr Tryd.prog 111 (.ptr r off ver) 1 = some (.ptr r (off + 1) ver) := fld_ptr (by kernel_rfl) ..
theorem zt111 : zeroT Tryd.prog 111 = some [.slice none 0 0 0 1 false, .nilfunc] := by kernel_rfl
@[simp] theorem ld113 (H : AH) (r off ver : Nat) : loadV Tryd.prog 113 H (.ptr r off ver) = ld H r off ver := ld_sc (by kernel_rfl) ..
theorem sc113 : scal Tryd.prog 113 = true := by kernel_rfl
theorem zt113 : zeroT Tryd.prog 113 = some [.int .u64 0] := by kernel_rfl
@[simp] theorem ld115 (H : AH) (r off ver : Nat) : loadV Tryd.prog 115 H (.ptr r off ver) = ld H r off ver := ld_sc (by kernel_rfl) ..
theorem sc115 : scal Tryd.prog 115 = true := by kernel_rfl
theorem zt115 : zeroT Tryd.prog 115 = some [.niliface] := by kernel_rfl
theorem ag121 : aggSz Tryd.prog 121 = some 2 := by kernel_rfl
@[simp] theorem ld121 (H : AH) (r off ver : Nat) : loadV Tryd.prog 121 H (.ptr r off ver) = (ldn H r ver 2 off).map .agg := load_agg ag121 ..
@[simp] theorem fa121_0 (r off ver : Nat) : aFieldAddr Tryd.prog 121 (.ptr r off ver) 0 = some (.ptr r (off + 0) ver) := fld_ptr (by kernel_rfl) ..
@[simp] theorem fa121_1 (r off ver : Nat) : aFieldAddr Tryd.prog 121 (.ptr r off ver) 1 = some (.ptr r (off + 1) ver) := fld_ptr (by kernel_rfl) ..
@[simp] theorem built121 (x0 x1 : Int) : aBuilt Tryd.prog 121 [(0, .int .i64 x0), (1, .int .i64 x1)] = some [.int .i64 x0, .int .i64 x1] := by kernel_rfl
theorem zt121 : zeroT Tryd.prog 121 = some [.int .i64 0, .int .i64 0] := by kernel_rfl
@[simp] theorem ld123 (H : AH) (r off ver : Nat) : loadV Tryd.prog 123 H (.ptr r off ver) = ld H r off ver := ld_sc (by kernel_rfl) ..
theorem sc123 : scal Tryd.prog 123 = true := by kernel_rfl
theorem zt123 : zeroT Tryd.prog 123 = some [.int .u64 0] := by kernel_rfl
@[simp] theorem ld127 (H : AH) (r off ver : Nat) : loadV Tryd.prog 127 H (.ptr r off ver) = ld H r off ver := ld_sc (by kernel_rfl) ..
theorem sc127 : scal Tryd.prog 127 = true := by kernel_rfl
theorem zt127 : zeroT Tryd.prog 127 = some [.nilptr] := by kernel_rfl
theorem ag130 : aggSz Tryd.prog 130 = some 1 := by kernel_rfl
@[simp] theorem ld130 (H : AH) (r off ver : Nat) : loadV Tryd.prog 130 H (.ptr r off ver) = (ldn H r ver 1 off).map .agg := load_agg ag130 ..
@[simp] theorem fa130_0 (r off ver : Nat) : aFieldAddr Tryd.prog 130 (.ptr r off ver) 0 = some (.ptr r (off + 0) ver) := fld_ptr (by kernel_rfl) ..
@[simp] theorem built130 (x0 : Int) : aBuilt Tryd.prog 130 [(0, .int .i64 x0)] = some [.int .i64 x0] := by kernel_rfl
theorem zt130 : zeroT Tryd.prog 130 = some [.int .i64 0] := by kernel_rfl
@[simp] theorem cv3_85 (k : IntKind) (n : Int) : aConv Tryd.prog 3 85 (.int k n) = some (.int .u64 (IntKind.u64.wrap n)) := cv_int (by kernel_rfl) (by kernel_rfl) n
@[simp] theorem cv3_123 (k : IntKind) (n : Int) : aConv Tryd.prog 3 123 (.int k n) = some (.int .u64 (IntKind.u64.wrap n)) := cv_int (by kernel_rfl) (by kernel_rfl) n
@[simp] theorem cv5_3 (k : IntKind) (n : Int) : aConv Tryd.prog 5 3 (.int k n) = some (.int .i64 (IntKind.i64.wrap n)) := cv_int (by kernel_rfl) (by kernel_rfl) n
@[simp] theorem cv22_3 (k : IntKind) (n : Int) : aConv Tryd.prog 22 3 (.int k n) = some (.int .i64 (IntKind.i64.wrap n)) := cv_int (by kernel_rfl) (by kernel_rfl) n
@[simp] theorem cv85_3 (k : IntKind) (n : Int) : aConv Tryd.prog 85 3 (.int k n) = some (.int .i64 (IntKind.i64.wrap n)) := cv_int (by kernel_rfl) (by kernel_rfl) n
@[simp] theorem cv85_105 (k : IntKind) (n : Int) : aConv Tryd.prog 85 105 (.int k n) = some (.int .u32 (IntKind.u32.wrap n)) := cv_int (by kernel_rfl) (by kernel_rfl) n
@[simp] theorem cv105_5 (k : IntKind) (n : Int) : aConv Tryd.prog 105 5 (.int k n) = some (.int .u8 (IntKind.u8.wrap n)) := cv_int (by kernel_rfl) (by kernel_rfl) n
@[simp] theorem cv107_5 (k : IntKind) (n : Int) : aConv Tryd.prog 107 5 (.int k n) = some (.int .u8 (IntKind.u8.wrap n)) := cv_int (by kernel_rfl) (by kernel_rfl) n
end Go.Proofs.YtmlhekfkniibmaaDoor

/- Lists that are mixed between two places. -/
namespace Go.Proofs.YtmlhekfkniibmaaDoor
open Go Go.Proofs.YtmlhekfkniibmaaDoor.AX

/-- What a temporary that is called calls. -/
def callW (P : Program) (v : AV) (xs : List AV) : Option (FuncId × List AV) := match v with
  | .func (.func f) first cap => if okFn P f then some (f, first ++ xs ++ cap) else none
  | _ => none
@[simp] theorem callW_f {P : Program} {f : FuncId} {first cap xs : List AV} : callW P (.func (.func f) first cap) xs = if okFn P f then some (f, first ++ xs ++ cap) else none := rfl
@[simp] theorem opcall_tmp {P : Program} {e : Env} {t : Tmp} {xs : Array Operand} {ts : Array TypeId} : opCall P (oval e) (.call ⟨.value (.tmp t), xs, ts⟩) = callW P (eget e t) (xs.toList.map (oval e)) := by
  simp only [opCall, oval, callW]
  cases eget e t <;> rfl
/-- All rows but one are as they were. -/
def KeepX (r : Nat) (H H' : AH) : Prop := H.length ≤ H'.length ∧ ∀ j : Nat, j ≠ r → j < H.length → H'[j]? = H[j]?
theorem KeepX.refl (r : Nat) (H : AH) : KeepX r H H := ⟨Nat.le_refl _, fun _ _ _ => rfl⟩
theorem KeepX.ext {r : Nat} {A B C : AH} (h : KeepX r A B) (k : Ext B C) : KeepX r A C := ⟨Nat.le_trans h.1 k.1, fun j h1 h2 => by rw [k.2 j (by have := h.1; omega), h.2 j h1 h2]⟩
theorem KeepX.set {r : Nat} {A B : AH} (h : KeepX r A B) (o : AObj) : KeepX r A (B.set r o) := ⟨by simpa using h.1, fun j h1 h2 => by rw [List.getElem?_set_ne (Ne.symm h1), h.2 j h1 h2]⟩
theorem KeepX.row {r : Nat} {H H' : AH} (h : KeepX r H H') {j : Nat} {o : AObj} (hj : j ≠ r) (ho : H[j]? = some o) : H'[j]? = some o := by
  rw [h.2 j hj (List.getElem?_eq_some_iff.1 ho).1]; exact ho
theorem KeepX.trans {r : Nat} {A B C : AH} (h : KeepX r A B) (k : KeepX r B C) : KeepX r A C := ⟨Nat.le_trans h.1 k.1, fun j h1 h2 => by rw [k.2 j h1 (by have := h.1; omega), h.2 j h1 h2]⟩
def g (c : List Int) (i : Nat) : Int := c.getD i 0
theorem g_lt {c : List Int} {i : Nat} (h : i < c.length) : g c i = c[i] := by simp [g, List.getD_eq_getElem?_getD, h]
def sw (c : List Int) (i j : Nat) : List Int := (c.set i (g c j)).set j (g c i)
theorem sw_len (c : List Int) (i j : Nat) : (sw c i j).length = c.length := by simp [sw]
theorem g_sw {c : List Int} {i j : Nat} (hi : i < c.length) (hj : j < c.length) (k : Nat) : g (sw c i j) k = if k = j then g c i else if k = i then g c j else g c k := by
  unfold sw
  unfold g
  simp only [List.getD_eq_getElem?_getD, List.getElem?_set, List.length_set]
  by_cases h1 : k = j
  · subst h1; simp [hj]
  · by_cases h2 : k = i
    · subst h2; simp [h1, hi, Ne.symm h1]
    · simp [Ne.symm h1, Ne.symm h2, h1, h2]
theorem sw_j {c : List Int} {i j : Nat} (hi : i < c.length) (hj : j < c.length) : g (sw c i j) j = g c i := by rw [g_sw hi hj, if_pos rfl]
theorem sw_i {c : List Int} {i j : Nat} (hi : i < c.length) (hj : j < c.length) : g (sw c i j) i = g c j := by
  rw [g_sw hi hj]
  by_cases h : i = j
  · rw [if_pos h, h]
  · rw [if_neg h, if_pos rfl]
theorem sw_o {c : List Int} {i j k : Nat} (hi : i < c.length) (hj : j < c.length) (h1 : k ≠ i) (h2 : k ≠ j) : g (sw c i j) k = g c k := by rw [g_sw hi hj, if_neg h2, if_neg h1]
theorem sw_perm {c : List Int} {i j : Nat} (hi : i < c.length) (hj : j < c.length) : (sw c i j).Perm c := by
  have h := Array.swap_perm (xs := c.toArray) (i := i) (j := j) (by simpa using hi) (by simpa using hj)
  have h2 := h.toList
  simp only [Array.swap, Array.toList_set] at h2
  have e1 : g c j = c[j] := g_lt hj
  have e2 : g c i = c[i] := g_lt hi
  simpa [sw, e1, e2] using h2
/-- Mixed between a and b. -/
def Shuf (a b : Nat) (c m : List Int) : Prop := m.Perm c ∧ ∀ k, k < a ∨ b ≤ k → g m k = g c k
theorem Shuf.refl (a b : Nat) (c : List Int) : Shuf a b c c := ⟨.refl _, fun _ _ => rfl⟩
theorem Shuf.len {a b : Nat} {c m : List Int} (h : Shuf a b c m) : m.length = c.length := h.1.length_eq
theorem Shuf.trans {a b : Nat} {c d m : List Int} (h : Shuf a b c d) (k : Shuf a b d m) : Shuf a b c m := ⟨k.1.trans h.1, fun i hi => by rw [k.2 i hi, h.2 i hi]⟩
theorem Shuf.wide {a b a' b' : Nat} {c m : List Int} (h : Shuf a b c m) (h1 : a' ≤ a) (h2 : b ≤ b') : Shuf a' b' c m := ⟨h.1, fun i hi => h.2 i (by omega)⟩
theorem Shuf.swap {a b i j : Nat} {c : List Int} (hb : b ≤ c.length) (hi : a ≤ i ∧ i < b) (hj : a ≤ j ∧ j < b) : Shuf a b c (sw c i j) :=
  ⟨sw_perm (by omega) (by omega), fun k hk => by rw [g_sw (by omega) (by omega), if_neg (by omega), if_neg (by omega)]⟩
def mid (a b : Nat) (c : List Int) : List Int := (c.drop a).take (b - a)
theorem mid_mem {a b : Nat} {c : List Int} (hb : b ≤ c.length) {x : Int} : x ∈ mid a b c ↔ ∃ k, a ≤ k ∧ k < b ∧ g c k = x := by
  unfold mid
  constructor
  · intro h
    obtain ⟨i, hi, rfl⟩ := List.mem_iff_getElem.1 h
    simp at hi
    exact ⟨a + i, by omega, by omega, by rw [g_lt (by omega)]; simp⟩
  · rintro ⟨k, h1, h2, rfl⟩
    rw [g_lt (by omega)]
    exact List.mem_iff_getElem.2 ⟨k - a, by simp; omega, by simp; congr 1; omega⟩
theorem Shuf.mid {a b : Nat} {c m : List Int} (h : Shuf a b c m) (hab : a ≤ b) (hb : b ≤ c.length) : (mid a b m).Perm (mid a b c) := by
  have hl := h.len
  have split : ∀ l : List Int, l = l.take a ++ (Go.Proofs.YtmlhekfkniibmaaDoor.mid a b l ++ l.drop b) := by
    intro l
    unfold Go.Proofs.YtmlhekfkniibmaaDoor.mid
    have : l.drop b = (l.drop a).drop (b - a) := by rw [List.drop_drop]; congr 1; omega
    rw [this, List.take_append_drop, List.take_append_drop]
  have e1 : m.take a = c.take a := by
    apply List.ext_getElem (by simp [hl])
    intro i h1 h2
    simp at h1 h2
    have := h.2 i (by omega)
    rw [g_lt (by omega), g_lt (by omega)] at this
    simpa using this
  have e2 : m.drop b = c.drop b := by
    apply List.ext_getElem (by simp [hl])
    intro i h1 h2
    simp at h1 h2
    have := h.2 (b + i) (by omega)
    rw [g_lt (by omega), g_lt (by omega)] at this
    simpa using this
  have hp := h.1
  rw [split m, split c, e1, e2] at hp
  exact (List.perm_append_right_iff _).1 ((List.perm_append_left_iff _).1 hp)
/-- What holds of all between, holds of all when they are mixed. -/
theorem Shuf.all {a b : Nat} {c m : List Int} (h : Shuf a b c m) (hb : b ≤ c.length) {p : Int → Prop} (hp : ∀ k, a ≤ k → k < b → p (g c k)) : ∀ k, a ≤ k → k < b → p (g m k) := by
  intro k h1 h2
  have hm : g m k ∈ Go.Proofs.YtmlhekfkniibmaaDoor.mid a b m := (mid_mem (by have := h.len; omega)).2 ⟨k, h1, h2, rfl⟩
  obtain ⟨k', h3, h4, h5⟩ := (mid_mem hb).1 ((h.mid (by omega) hb).mem_iff.1 hm)
  rw [← h5]; exact hp k' h3 h4
def Rw (r ver : Nat) (H : AH) (c : List Int) : Prop := ∃ s, H[r]? = some (.row (c.map (.int .i64)) ver s false)
theorem Rw.ld {r ver i : Nat} {H : AH} {c : List Int} (h : Rw r ver H c) (hi : i < c.length) : AX.ld H r i ver = some (.int .i64 (g c i)) := by
  obtain ⟨s, h⟩ := h
  rw [ld_row h, g_lt hi]; simp [hi]
theorem Rw.ext {r ver : Nat} {H H' : AH} {c : List Int} (h : Rw r ver H c) (hE : Ext H H') : Rw r ver H' c := by
  obtain ⟨s, h⟩ := h
  exact ⟨s, hE.row h⟩
theorem Rw.swap {r ver i j : Nat} {H : AH} {c : List Int} (h : Rw r ver H c) (hi : i < c.length) (hj : j < c.length) :
    ∃ H1 H2, storeV Tryd.prog 3 H (.ptr r i ver) (.int .i64 (g c j)) = some (none, H1) ∧ storeV Tryd.prog 3 H1 (.ptr r j ver) (.int .i64 (g c i)) = some (none, H2) ∧ Rw r ver H2 (sw c i j) ∧ KeepX r H H2 := by
  obtain ⟨s, h⟩ := h
  have h1 := store_row (P := Tryd.prog) (u := 3) (p := i) sc3 (x := .int .i64 (g c j)) (y := .int .i64 c[i]) rfl h (by simp [hi])
  have e1 : (c.map (AV.int .i64)).set i (.int .i64 (g c j)) = (c.set i (g c j)).map (.int .i64) := by rw [List.map_set]
  rw [e1] at h1
  have hr1 := get_set (o' := .row ((c.set i (g c j)).map (.int .i64)) ver (min s i) false) h
  have h2 := store_row (P := Tryd.prog) (u := 3) (p := j) sc3 (x := .int .i64 (g c i)) (y := .int .i64 ((c.set i (g c j))[j]'(by simpa using hj))) rfl hr1 (by rw [List.getElem?_map, List.getElem?_eq_getElem (by simpa using hj)]; rfl)
  have e2 : ((c.set i (g c j)).map (AV.int .i64)).set j (.int .i64 (g c i)) = (sw c i j).map (.int .i64) := by rw [← List.map_set]; rfl
  rw [e2] at h2
  exact ⟨_, _, h1, h2, ⟨_, get_set hr1⟩, ((KeepX.refl r H).set _).set _⟩
end Go.Proofs.YtmlhekfkniibmaaDoor

/- Seats in a row, and how some go. -/
namespace Go.Proofs.YtmlhekfkniibmaaDoor
open Go Go.Proofs.YtmlhekfkniibmaaDoor.AX

/-- Seats: a part of a row, with or without room behind it. -/
def SV (b : Bool) (r off len ver : Nat) : AV := bif b then .clip r off len ver 1 else .slice (some r) off len ver 1 false
theorem und74 : Tryd.prog.underlying 66 = some (.slice 3) := by kernel_rfl
theorem und22 : Tryd.prog.underlying 26 = some (.slice 3) := by kernel_rfl
theorem inf3 : ∃ i, Tryd.prog.info? 3 = some i ∧ i.size = 1 := by
  have h := slz66
  unfold slSz at h
  rw [und74] at h
  simp only [Option.map_eq_some_iff] at h
  exact h
@[simp] theorem lenS (b : Bool) (r off len ver : Nat) : aLen Tryd.prog 66 (SV b r off len ver) = some (.int .i64 len) := by
  cases b
  · exact len66 ..
  · unfold aLen SV; rw [und74]; rfl
@[simp] theorem ixaS (b : Bool) (r off len ver : Nat) (k : IntKind) (i : Int) : aIndexAddr Tryd.prog 66 (SV b r off len ver) (.int k i) = if 0 ≤ i ∧ i < len then some (.ptr r (off + i.toNat) ver) else none := by
  cases b
  · have := ixa66 r off len ver false k i
    rw [Nat.mul_one] at this
    exact this
  · obtain ⟨ie, h1, h2⟩ := inf3
    unfold aIndexAddr SV
    rw [und74]
    simp [h1, h2]
theorem sliceS {b : Bool} {r off len ver lo hi : Nat} (h1 : lo ≤ hi) (h2 : hi ≤ len) : aSlice Tryd.prog 66 (SV b r off len ver) (some (.int .i64 (lo : Int))) (some (.int .i64 (hi : Int))) (some (.int .i64 (hi : Int))) = some (SV true r (off + lo) (hi - lo) ver) := by
  obtain ⟨ie, g1, g2⟩ := inf3
  have h3 : (lo : Int) ≤ (hi : Int) := by omega
  have h4 : (hi : Int) ≤ (len : Int) := by omega
  cases b <;> simp [aSlice, SV, g1, g2, aBounds, aBound, h1, h2, clipOf]
theorem sliceS0 {b : Bool} {r off len ver hi : Nat} (h2 : hi ≤ len) : aSlice Tryd.prog 66 (SV b r off len ver) none (some (.int .i64 (hi : Int))) (some (.int .i64 (hi : Int))) = some (SV true r off hi ver) := by
  obtain ⟨ie, g1, g2⟩ := inf3
  cases b <;> simp [aSlice, SV, g1, g2, aBounds, aBound, h2, clipOf]
theorem sliceS1 {b : Bool} {r off len ver : Nat} (h2 : 1 ≤ len) : aSlice Tryd.prog 66 (SV b r off len ver) (some (.int .i64 1)) (some (.int .i64 (len : Int))) (some (.int .i64 (len : Int))) = some (SV true r (off + 1) (len - 1) ver) := by
  obtain ⟨ie, g1, g2⟩ := inf3
  have h3 : (1 : Int) ≤ (len : Int) := by omega
  cases b <;> simp [aSlice, SV, g1, g2, aBounds, aBound, clipOf, h3]

set_option maxRecDepth 100000 in
/-- slices.Reverse turns a part of a row round. -/
theorem Reverse_ac (b : Bool) (r off n ver : Nat) (c : List Int) (H : AH) (Q : AV → AH → Prop) (hr : Rw r ver H c) (hl : c.length ≤ 1000000) (hc : off + n ≤ c.length)
    (h : ∀ (H' : AH) (d : List Int), d.length = c.length → (∀ x, x < c.length → g d x = if off ≤ x ∧ x < off + n then g c (2 * off + n - 1 - x) else g c x) → Rw r ver H' d → KeepX r H H' → Q (.tuple []) H') : AC Tryd.prog 50 [SV b r off n ver] H Q := by
  refine L_body 28 Tryd.func50 rfl rfl ?_
  have hw : IntKind.i64.wrap ((n : Int) - 1) = (n : Int) - 1 := wrap_i64 (by omega)
  refine L_reg [0, 2, 3] (fun K hK => ?_)
  simp [hw]
  apply hK; clear hK K
  refine L_block (L_loopV [2, 3] (fun k vs H' => ∃ (i : Nat) (d : List Int), k = n - i ∧ 2 * i ≤ n + 1 ∧ i ≤ n ∧ d.length = c.length ∧ (∀ x, x < c.length → g d x = if off ≤ x ∧ x < off + n ∧ (x < off + i ∨ off + n ≤ x + i) then g c (2 * off + n - 1 - x) else g c x) ∧ vs = [.int .i64 i, .int .i64 ((n : Int) - 1 - i)] ∧ Rw r ver H' d ∧ KeepX r H H') _ [.int .i64 0, .int .i64 ((n : Int) - 1)] rfl ⟨0, c, rfl, by omega, by omega, rfl, fun x hx => by rw [if_neg (by omega)], by simp, hr, .refl r H⟩ ?_)
  rintro k _ H1 ⟨i, d, rfl, hi, hin, hdl, hd, rfl, hrow, hK⟩
  refine L_reg [0, 2, 3, 9] (fun K hK => ?_)
  simp
  apply hK; clear hK K
  refine L_dec ((i : Int) < (n : Int) - 1 - i) (by simp) (fun hlt => ?_) (fun hge => L_exit ?_)
  · obtain ⟨j, hj⟩ : ∃ j : Nat, n = i + 1 + j := ⟨n - i - 1, by omega⟩
    have hji : (n : Int) - 1 - i = (j : Int) := by omega
    have hx := hrow.ld (i := off + i) (by omega)
    have hy := hrow.ld (i := off + j) (by omega)
    obtain ⟨H2, H3, e1, e2, e3, e4⟩ := hrow.swap (i := off + i) (j := off + j) (by omega) (by omega)
    have g1 : i < n := by omega
    have g2 : j < n := by omega
    refine L_block ?_
    rw [hji]
    refine L_regT mixed [0, 2, 3] (by kernel_rfl) (fun K hK => ?_)
    simp [g1, g2, hx, hy, e1, e2]
    apply hK; clear hK K
    refine L_reg [0, 2, 3] (fun K hK => ?_)
    simp [wrap_i64 (a := (i : Int) + 1) (by omega), wrap_i64 (a := (j : Int) - 1) (by omega)]
    apply hK; clear hK K
    refine ⟨n - (i + 1), [.int .i64 (i + 1 : Nat), .int .i64 ((n : Int) - 1 - (i + 1 : Nat))], by omega, by simp; omega, i + 1, _, rfl, by omega, by omega, by rw [sw_len]; exact hdl, fun x hx => ?_, rfl, e3, hK.trans e4⟩
    rw [g_sw (by omega) (by omega)]
    have d1 := hd (off + i) (by omega)
    have d2 := hd (off + j) (by omega)
    have d3 := hd x hx
    rw [if_neg (by omega)] at d1 d2
    by_cases x1 : x = off + j
    · subst x1
      rw [if_pos rfl, d1, if_pos (by omega)]
      congr 1; omega
    · rw [if_neg x1]
      by_cases x2 : x = off + i
      · subst x2
        rw [if_pos rfl, d2, if_pos (by omega)]
        congr 1; omega
      · rw [if_neg x2, d3]
        by_cases x3 : off ≤ x ∧ x < off + n ∧ (x < off + i ∨ off + n ≤ x + i)
        · rw [if_pos x3, if_pos (by omega)]
        · rw [if_neg x3, if_neg (by omega)]
  · refine ⟨.inl rfl, _, rfl, h _ d hdl (fun x hx => ?_) hrow hK⟩
    rw [hd x hx]
    by_cases x1 : off ≤ x ∧ x < off + n ∧ (x < off + i ∨ off + n ≤ x + i)
    · rw [if_pos x1, if_pos (by omega)]
    · rw [if_neg x1]
      by_cases x2 : off ≤ x ∧ x < off + n
      · rw [if_pos x2]; congr 1; omega
      · rw [if_neg x2]
/-- Who sits after the one at a place went, from the next one on, behind those who went. -/
def rot (l : List Int) (a : Nat) : List Int := l.drop (a + 1) ++ l.take a
theorem rot_len {l : List Int} {a : Nat} (h : a < l.length) : (rot l a).length = l.length - 1 := by simp [rot]; omega
theorem g_app (a b : List Int) (i : Nat) : g (a ++ b) i = if i < a.length then g a i else g b (i - a.length) := by
  unfold g
  simp only [List.getD_eq_getElem?_getD]
  split
  · rename_i h; rw [List.getElem?_append_left h]
  · rename_i h; rw [List.getElem?_append_right (by omega)]
theorem g_drop (l : List Int) (a i : Nat) : g (l.drop a) i = g l (a + i) := by simp [g, List.getD_eq_getElem?_getD]
theorem g_take {l : List Int} {a i : Nat} (h : i < a) : g (l.take a) i = g l i := by simp [g, List.getD_eq_getElem?_getD, List.getElem?_take_of_lt h]
theorem g_ext {a b : List Int} (h1 : a.length = b.length) (h2 : ∀ i, i < a.length → g a i = g b i) : a = b := by
  apply List.ext_getElem h1
  intro i ha hb
  have := h2 i ha
  rwa [g_lt ha, g_lt hb] at this
set_option maxRecDepth 100000 in
theorem leave_ac (b : Bool) (r ver a off n : Nat) (p l : List Int) (H : AH) (Q : AV → AH → Prop) (hr : Rw r ver H (p ++ l)) (hp : p.length = off) (hn : l.length = n) (ha : a < n) (hl : off + n ≤ 1000000)
    (h : ∀ (H' : AH), Rw r ver H' (p ++ [g l a] ++ rot l a) → KeepX r H H' → Q (SV true r (off + 1) (n - 1) ver) H') : AC Tryd.prog 39 [SV b r off n ver, .int .i64 a] H Q := by
  refine L_body 30 Tryd.func39 rfl rfl ?_
  refine L_reg [0, 1] (fun K hK => ?_)
  simp
  apply hK; clear hK K
  refine L_regT mixed [0, 5, 6] (by kernel_rfl) (fun K hK => ?_)
  simp [sliceS0 (Nat.le_of_lt ha), sliceS (lo := a) (hi := n) (Nat.le_of_lt ha) (Nat.le_refl n)]
  apply hK; clear hK K
  have hcl : (p ++ l).length = off + n := by simp; omega
  generalize hc : p ++ l = c at *
  refine L_reg [0, 6] (fun K hK => ?_)
  simp [okFn_low]
  refine Reverse_ac true r off a ver c _ _ hr (by omega) (by omega) (fun H1 d1 l1 e1 r1 k1 => ?_)
  simp
  apply hK; clear hK K
  refine L_reg [0] (fun K hK => ?_)
  simp [okFn_low]
  refine Reverse_ac true r (off + a) (n - a) ver d1 _ _ r1 (by omega) (by omega) (fun H2 d2 l2 e2 r2 k2 => ?_)
  simp
  apply hK; clear hK K
  refine L_reg [0] (fun K hK => ?_)
  simp [okFn_low]
  refine Reverse_ac b r off n ver d2 _ _ r2 (by omega) (by omega) (fun H3 d3 l3 e3 r3 k3 => ?_)
  simp
  apply hK; clear hK K
  refine L_reg [4] (fun K hK => ?_)
  simp [sliceS1 (show 1 ≤ n by omega)]
  apply hK; clear hK K
  have e : d3 = p ++ [g l a] ++ rot l a := by
    apply g_ext (by simp [rot]; omega)
    intro x hx
    rw [e3 x (by omega), List.append_assoc, g_app]
    by_cases x1 : off ≤ x
    · rw [if_pos ⟨x1, by omega⟩, if_neg (by omega), hp, e2 _ (by omega), g_app]
      have hgl : ∀ y, off ≤ y → g c y = g l (y - off) := fun y hy => by rw [← hc, g_app, if_neg (by omega), hp]
      by_cases x2 : x < off + n - a
      · rw [if_pos (by omega), e1 _ (by omega), if_neg (by omega), hgl _ (by omega)]
        by_cases x3 : x = off
        · subst x3
          rw [if_pos (by simp)]
          have : x - x = 0 := by omega
          rw [this]
          show _ = g l a
          congr 1; omega
        · rw [if_neg (by simp; omega)]
          simp only [List.length_singleton]
          unfold rot
          rw [g_app, if_pos (by simp; omega), g_drop]
          congr 1; omega
      · rw [if_neg (by omega), e1 _ (by omega), if_pos (by omega), hgl _ (by omega), if_neg (by simp; omega)]
        simp only [List.length_singleton]
        unfold rot
        rw [g_app, if_neg (by simp; omega), g_take (by simp; omega)]
        simp only [List.length_drop]
        congr 1; omega
    · rw [if_neg (by omega), if_pos (by omega), e2 _ (by omega), if_neg (by omega), e1 _ (by omega), if_neg (by omega), ← hc, g_app, if_pos (by omega)]
  subst e
  exact L_ret ⟨.inr rfl, _, rfl, h H3 r3 ((k1.trans k2).trans k3)⟩
end Go.Proofs.YtmlhekfkniibmaaDoor

/- A whole list is appended. -/
namespace Go.Proofs.YtmlhekfkniibmaaDoor
open Go Go.Proofs.YtmlhekfkniibmaaDoor.AX
theorem ldn_ints {H : AH} {r ver : Nat} : ∀ {m : List Int} {p : Nat}, (∀ i (h : i < m.length), ld H r (p + i) ver = some (.int .i64 m[i])) → ldn H r ver m.length p = some (m.map (.int .i64))
  | [], _, _ => rfl
  | x :: m, p, h => by
    have h0 := h 0 (by simp)
    simp only [Nat.add_zero, List.getElem_cons_zero] at h0
    have h1 : ldn H r ver m.length (p + 1) = some (m.map (.int .i64)) := ldn_ints fun i hi => by
      have := h (i + 1) (by simpa using hi)
      simp only [List.getElem_cons_succ] at this
      rw [← this]; congr 1; omega
    rw [List.length_cons, ldn_succ, h0, Option.bind_some, h1]
    rfl
theorem src_ls {P : Program} {H : AH} {u : TypeId} {x : AV} {m : List Int} (hu : elT P u = true) (hx : Ls H x m) : aSrc P H u 1 x = some (m.length, m.map (.int .i64)) := by
  obtain ⟨e', I', g1, -⟩ := elT_some hu
  obtain ⟨r, off, ver, sz, full, rfl, hld⟩ := hx
  unfold aSrc
  rw [g1]
  cases m with
  | nil => cases r <;> simp
  | cons y m =>
    obtain ⟨r', rfl, rfl, -⟩ := hld 0 (by simp)
    have h1 : ldn H r' ver (y :: m).length off = some ((y :: m).map (.int .i64)) := ldn_ints fun i hi => by
      obtain ⟨r2, h2, -, h3⟩ := hld i hi
      obtain rfl := Option.some.inj h2
      exact h3
    simp only [Nat.mul_one, h1]
    simp
theorem all_ints (m : List Int) : (m.map (AV.int .i64)).all AV.one = true := by
  rw [List.all_eq_true]
  intro x hx
  obtain ⟨i, -, rfl⟩ := List.mem_map.1 hx
  rfl
theorem row0 {P : Program} {H : AH} {t : TypeId} (ht : elT P t = true) : rowV P t 0 [] H = some (some (.slice (some H.length) 0 0 0 1 false), H ++ [.row [] 0 0 false]) := by
  obtain ⟨e, I, h1, h2, h3, h4, hzz⟩ := elT_some ht
  simp [rowV, h1, h2, h3, aFill]
@[simp] theorem row26_0 (H : AH) : rowV Tryd.prog 26 0 [] H = some (some (.slice (some H.length) 0 0 0 1 false), H ++ [.row [] 0 0 false]) := row0 el26
/-- append(l, x...) -/
theorem ownF_appendL {P : Program} {H H0 : AH} (hE : Ext H0 H) {t u : TypeId} (ht : elT P t = true) (hu : elT P u = true) {v x : AV} {l m : List Int} (ho : OwnF H0.length H v (l.map (.int .i64))) (hx : Ls H x m) (hlen : l.length + m.length ≤ 16777216) :
    ∃ v' H', aAppend P H t u v x = some (v', H') ∧ OwnF H0.length H' v' ((l ++ m).map (.int .i64)) ∧ Ext H0 H' := by
  obtain ⟨e, I, h1, h2, h3, h4, -⟩ := elT_some ht
  have hsrc := src_ls hu hx
  have hall := all_ints m
  have hle := hE.1
  unfold aAppend
  cases m with
  | nil =>
    simp only [List.length_nil, List.map_nil] at hsrc
    refine ⟨v, H, ?_, by simpa using ho, hE⟩
    rcases ho with ⟨-, rfl⟩ | ⟨r, ver, stale, hr0, rfl, hr⟩ <;> simp [h1, h2, h3, h4, hsrc]
  | cons y m =>
    have hml : ((y :: m).map (AV.int .i64)).length = (y :: m).length := by simp
    rw [List.map_append]
    generalize (y :: m).map (AV.int .i64) = vs at *
    have hne : (y :: m).length ≠ 0 := by simp
    generalize (y :: m).length = k at *
    rcases ho with ⟨h0, rfl⟩ | ⟨r, ver, stale, hr0, rfl, hr⟩
    · have : l = [] := by simpa using h0
      subst this
      have hk : k ≤ 16777216 := by simpa using hlen
      refine ⟨.slice (some H.length) 0 k 0 1 false, H ++ [.row vs 0 0 false], ?_, .inr ⟨H.length, 0, 0, by omega, by simp [hml], by simp⟩, hE.trans (.push _ _)⟩
      simp only [h1, h2, h3, h4, hsrc]
      simp [hml, hne, hk]
      exact fun x hx => List.all_eq_true.1 hall x hx
    · have hlt : r < H.length := (List.getElem?_eq_some_iff.1 hr).1
      have hll : (l.map (AV.int .i64)).length = l.length := by simp
      generalize hL : l.map (AV.int .i64) = L at *
      refine ⟨.slice (some r) 0 (l.length + k) (ver + 1) 1 false, H.set r (AObj.row (L ++ vs) (ver + 1) (min stale l.length) false), ?_, .inr ⟨r, ver + 1, min stale l.length, hr0, by simp [hll, hml], get_set hr⟩, hE.set _ hr0⟩
      have hin : inPlace H r 0 l.length k ver 1 vs = none := by simp [inPlace, hr, hll]; omega
      have hgr : grow H r 0 l.length ver vs = some (H.set r (AObj.row (L ++ vs) (ver + 1) (min stale l.length) false), ver + 1) := by
        simp [grow, hr, ← hll]
      simp only [h1, h2, h3, h4, hsrc, hll]
      simp only [Nat.zero_lt_one, true_and, if_true, Option.bind_some, hall, hml, Nat.mul_one, beq_self_eq_true, Bool.and_true, hne, if_false, hlen, Bool.false_eq_true, hin, hgr, Option.map_some]
theorem ls_own0 {H : AH} : Ls (H ++ [.row [] 0 0 false]) (.slice (some H.length) 0 0 0 1 false) [] := ⟨some H.length, 0, 0, 1, false, rfl, fun i hi => by simp at hi⟩
theorem ownF_new (H : AH) : OwnF H.length (H ++ [.row [] 0 0 false]) (.slice (some H.length) 0 0 0 1 false) (([] : List Int).map (.int .i64)) := .inr ⟨H.length, 0, 0, Nat.le_refl _, rfl, by simp⟩
theorem KeepX.new {r : Nat} {H0 A B : AH} (h : KeepX r A B) (hE : Ext H0 A) (hr : H0.length ≤ r) : Ext H0 B := ⟨Nat.le_trans hE.1 h.1, fun j hj => by rw [h.2 j (by omega) (by have := hE.1; omega), hE.2 j hj]⟩
theorem Rw.put {r ver i : Nat} {H : AH} {c : List Int} (h : Rw r ver H c) (hi : i < c.length) (x : Int) :
    ∃ H1, storeV Tryd.prog 3 H (.ptr r i ver) (.int .i64 x) = some (none, H1) ∧ Rw r ver H1 (c.set i x) ∧ KeepX r H H1 := by
  obtain ⟨s, h⟩ := h
  have h1 := store_row (P := Tryd.prog) (u := 3) (p := i) sc3 (x := .int .i64 x) (y := .int .i64 c[i]) rfl h (by simp [hi])
  have e1 : (c.map (AV.int .i64)).set i (.int .i64 x) = (c.set i x).map (.int .i64) := by rw [List.map_set]
  rw [e1] at h1
  exact ⟨_, h1, ⟨_, get_set h⟩, (KeepX.refl r H).set _⟩
theorem g_set {c : List Int} {i : Nat} (hi : i < c.length) (x : Int) (k : Nat) : g (c.set i x) k = if k = i then x else g c k := by
  unfold g
  simp only [List.getD_eq_getElem?_getD, List.getElem?_set]
  by_cases h : i = k
  · subst h; simp [hi]
  · rw [if_neg h, if_neg (fun e => h e.symm)]
theorem Rw.ownF {N r ver : Nat} {H : AH} {c : List Int} (h : Rw r ver H c) (hr : N ≤ r) : OwnF N H (.slice (some r) 0 c.length ver 1 false) (c.map (.int .i64)) := by
  obtain ⟨s, h⟩ := h
  exact .inr ⟨r, ver, s, hr, by simp, h⟩
theorem Rw.ls {r ver : Nat} {H : AH} {c : List Int} (h : Rw r ver H c) : Ls H (.slice (some r) 0 c.length ver 1 false) c := by
  obtain ⟨s, h⟩ := h
  exact Ls.row h false
/-- The row of a slice. -/
def rowOf : AV → Option Nat
  | .slice r _ _ _ _ _ => r
  | _ => none
theorem ls_keep {H H' : AH} {w : AV} {l : List Int} (h : Ls H w l) (hk : ∀ j, j < H.length → rowOf w = some j → H'[j]? = H[j]?) : Ls H' w l := by
  obtain ⟨r, off, ver, sz, full, rfl, hl⟩ := h
  refine ⟨r, off, ver, sz, full, rfl, fun i hi => ?_⟩
  obtain ⟨r', h1, h2, h3⟩ := hl i hi
  refine ⟨r', h1, h2, ?_⟩
  have := hk r' (ld_lt h3) h1
  unfold ld at h3 ⊢
  rw [this]; exact h3
/-- append, and which rows stay as they are. -/
theorem ownF_append2 {P : Program} {H H0 : AH} (hE : Ext H0 H) {t u : TypeId} (ht : elT P t = true) (hu : elT P u = true) {v x : AV} {l : List AV} {m : Nat} (ho : OwnF H0.length H v l) (hx : x.one = true) (hlen : l.length < 16777216) :
    ∃ v' H', aAppend P (H ++ [.row [x] 0 m false]) t u v (.slice (some H.length) 0 1 0 1 false) = some (v', H') ∧ OwnF H0.length H' v' (l ++ [x]) ∧ Ext H0 H' ∧ (∀ j, j < H.length → rowOf v ≠ some j → H'[j]? = H[j]?) ∧ (∃ r, rowOf v' = some r ∧ (rowOf v = some r ∨ H.length ≤ r)) ∧ H.length ≤ H'.length := by
  obtain ⟨e, I, h1, h2, h3, h4, -⟩ := elT_some ht
  obtain ⟨e', I', g1, -⟩ := elT_some hu
  have hsrc : aSrc P (H ++ [.row [x] 0 m false]) u 1 (.slice (some H.length) 0 1 0 1 false) = some (1, [x]) := by
    cases x <;> simp_all [aSrc, ldn, takeKnown, AV.one]
  have hle := hE.1
  unfold aAppend
  rcases ho with ⟨rfl, rfl⟩ | ⟨r, ver, stale, hr0, rfl, hr⟩
  · refine ⟨.slice (some (H.length + 1)) 0 1 0 1 false, H ++ [.row [x] 0 m false] ++ [.row [x] 0 0 false], ?_, .inr ⟨H.length + 1, 0, 0, by omega, by simp, by simp⟩, ?_, fun j hj _ => ?_, ⟨H.length + 1, rfl, .inr (by omega)⟩, by simp⟩
    · simp [h1, h2, h3, h4, hsrc, hx]
    · rw [List.append_assoc]; exact hE.trans (.push _ _)
    · rw [List.append_assoc, List.getElem?_append_left hj]
  · have hlt : r < H.length := (List.getElem?_eq_some_iff.1 hr).1
    have hr' : (H ++ [.row [x] 0 m false])[r]? = some (.row l ver stale false) := by rw [List.getElem?_append_left hlt]; exact hr
    refine ⟨.slice (some r) 0 (l.length + 1) (ver + 1) 1 false, (H ++ [AObj.row [x] 0 m false]).set r (AObj.row (l ++ [x]) (ver + 1) (min stale l.length) false), ?_, .inr ⟨r, ver + 1, min stale l.length, hr0, by simp, ?_⟩, ?_, fun j hj hne => ?_, ⟨r, rfl, .inl rfl⟩, by simp⟩
    · have : l.length + 1 ≤ 16777216 := hlen
      have hin : inPlace (H ++ [AObj.row [x] 0 m false]) r 0 l.length 1 ver 1 [x] = none := by simp [inPlace, hr']; omega
      simp [h1, h2, h3, h4, hsrc, hx, grow, hr', this, hin]
    · rw [List.getElem?_set]
      simp; omega
    · exact (hE.trans (.push _ _)).set _ hr0
    · have hjr : r ≠ j := fun h => hne (by rw [h]; rfl)
      rw [List.getElem?_set_ne hjr, List.getElem?_append_left hj]
theorem ownF_ext {N : Nat} {H H1 : AH} {v : AV} {l : List AV} (h : OwnF N H v l) (hE : Ext H H1) : OwnF N H1 v l := by
  rcases h with h | ⟨r, ver, stale, h1, h2, h3⟩
  · exact .inl h
  · exact .inr ⟨r, ver, stale, h1, h2, hE.row h3⟩
theorem ownF_rowlt {N : Nat} {H : AH} {v : AV} {l : List AV} (h : OwnF N H v l) {j : Nat} (hj : rowOf v = some j) : N ≤ j ∧ j < H.length := by
  rcases h with ⟨-, rfl⟩ | ⟨r, ver, stale, h1, rfl, h3⟩
  · cases hj
  · cases hj; exact ⟨h1, (List.getElem?_eq_some_iff.1 h3).1⟩
end Go.Proofs.YtmlhekfkniibmaaDoor

/- The order in which rollers go, as the program finds it. -/
namespace Go.Proofs.YtmlhekfkniibmaaDoor
open Go Go.Proofs.YtmlhekfkniibmaaDoor.AX

def allS (n : Nat) : List Int := (List.range n).map Int.ofNat
theorem allS_len (n : Nat) : (allS n).length = n := by simp [allS]
theorem g_all {n i : Nat} (h : i < n) : g (allS n) i = i := by rw [g_lt (by simpa [allS] using h)]; simp [allS]
def ordS (k : Nat) : Nat → List Int → List Int
  | 0, _ => []
  | m + 1, l => g l ((k - 1) % (m + 1)) :: ordS k m (rot l ((k - 1) % (m + 1)))
theorem ordS_len (k : Nat) : ∀ (m : Nat) (l : List Int), (ordS k m l).length = m
  | 0, _ => rfl
  | m + 1, l => by simp [ordS, ordS_len k m]
def orderS (n k : Nat) : List Int := ordS k n (allS n)
theorem orderS_len (n k : Nat) : (orderS n k).length = n := ordS_len k n _
theorem full_ac (n : Nat) (hn : n ≤ 1000000) (H : AH) (Q : AV → AH → Prop) (h : ∀ H', Rw H.length 0 H' (allS n) → Ext H H' → Q (SV false H.length 0 n 0) H') : AC Tryd.prog 38 [.int .i64 n] H Q := by
  refine L_body 17 Tryd.func38 rfl rfl ?_
  refine L_reg [0] (fun K hK => ?_)
  simp
  apply hK; clear hK K
  refine L_reg [0, 3] (fun K hK => ?_)
  simp [make_z elz66 (show n ≤ 16777216 by omega)]
  apply hK; clear hK K
  have hE1 : Ext H (H ++ [AObj.row (List.replicate n (AV.int .i64 0)) 0 0 false]) := .push _ _
  have hw : Rw H.length 0 (H ++ [AObj.row (List.replicate n (AV.int .i64 0)) 0 0 false]) (List.replicate n 0) := ⟨0, by simp⟩
  generalize H ++ [AObj.row (List.replicate n (AV.int .i64 0)) 0 0 false] = H1 at hE1 hw ⊢
  rw [show AV.slice (some H.length) 0 n 0 1 false = SV false H.length 0 n 0 from rfl]
  refine L_reg [3, 7, 8] (fun K hK => ?_)
  simp
  apply hK; clear hK K
  refine L_block (L_loopV [8] (fun m vs H' => ∃ (i : Nat) (d : List Int), m = n - i ∧ i ≤ n ∧ d.length = n ∧ (∀ x : Nat, x < i → g d x = x) ∧ vs = [.int .i64 i] ∧ Rw H.length 0 H' d ∧ Ext H H') _ [.int .i64 0] rfl ⟨0, List.replicate n 0, rfl, by omega, by simp, fun x hx => by omega, rfl, hw, hE1⟩ ?_)
  rintro m _ H2 ⟨i, d, rfl, hi, hdl, hd, rfl, hrow, hE⟩
  refine L_reg [3, 7, 8, 9] (fun K hK => ?_)
  simp
  apply hK; clear hK K
  refine L_dec (i < n) (by simp) (fun hlt => ?_) (fun hge => L_exit ?_)
  · refine L_block ?_
    obtain ⟨H3, e1, e2, e3⟩ := hrow.put (i := i) (by omega) (i : Int)
    refine L_reg [3, 4, 7, 8] (fun K hK => ?_)
    simp
    apply hK; clear hK K
    refine L_reg [3, 7, 8] (fun K hK => ?_)
    simp [hlt, e1]
    apply hK; clear hK K
    refine L_reg [3, 7, 8] (fun K hK => ?_)
    simp [wrap_i64 (a := (i : Int) + 1) (by omega)]
    apply hK; clear hK K
    refine ⟨n - (i + 1), [.int .i64 (i + 1 : Nat)], by omega, by simp, i + 1, _, rfl, by omega, by simpa using hdl, fun x hx => ?_, rfl, e2, e3.new hE (Nat.le_refl _)⟩
    rw [g_set (by omega)]
    split
    · rename_i e; rw [e]
    · exact hd x (by omega)
  · have hi' : i = n := by omega
    subst hi'
    have e : d = allS i := g_ext (by simp [allS, hdl]) fun x hx => by rw [hd x (by omega), g_all (by omega)]
    subst e
    refine L_reg [2] (fun K hK => ?_)
    simp
    apply hK; clear hK K
    exact L_ret ⟨.inr rfl, _, rfl, h _ hrow hE⟩
theorem reached_ac (b : Bool) (r off n ver k : Nat) (hn : 1 ≤ n) (hk : 1 ≤ k) (hk2 : k ≤ 1000000000000) (H : AH) (Q : AV → AH → Prop) (h : Q (.int .i64 ((k - 1) % n : Nat)) H) : AC Tryd.prog 40 [SV b r off n ver, .int .i64 k] H Q := by
  refine L_body 10 Tryd.func40 rfl rfl ?_
  refine L_reg [0, 1] (fun K hK => ?_)
  simp
  apply hK; clear hK K
  have hne : n ≠ 0 := by omega
  have e2 : ((k : Int) - 1).tmod n = (((k - 1) % n : Nat) : Int) := by
    rw [show (k : Int) - 1 = ((k - 1 : Nat) : Int) by omega, Int.tmod_eq_emod_of_nonneg (by omega)]; rfl
  refine L_reg [4] (fun K hK => ?_)
  simp [wrap_i64 (a := (k : Int) - 1) (by omega), hne, e2]
  apply hK; clear hK K
  exact L_ret ⟨.inr rfl, _, rfl, h⟩
set_option maxRecDepth 100000 in
theorem order_ac (n k : Nat) (h1 : n ≤ 1000) (h3 : 1 ≤ k) (h4 : k ≤ 1000000000000) (H : AH) (Q : AV → AH → Prop) (h : ∀ v H', OwnF H.length H' v ((orderS n k).map (.int .i64)) → Ext H H' → Q v H') : AC Tryd.prog 19 [.int .i64 n, .int .i64 k] H Q := by
  refine L_body 20 Tryd.func19 rfl rfl ?_
  refine L_reg [0, 1] (fun K hK => ?_)
  simp
  apply hK; clear hK K
  refine L_reg [0, 1, 5] (fun K hK => ?_)
  simp [okFn_low]
  refine full_ac n (by omega) _ _ (fun H1 r1 E1 => ?_)
  simp
  apply hK; clear hK K
  refine L_reg [0, 1, 5, 6] (fun K hK => ?_)
  simp
  apply hK; clear hK K
  refine L_reg [1, 5, 6, 10, 11] (fun K hK => ?_)
  simp
  apply hK; clear hK K
  refine L_block (L_loopV [6, 11] (fun m vs H' => ∃ (i : Nat) (b : Bool) (done sit : List Int), m = n - i ∧ i ≤ n ∧ done.length = i ∧ sit.length = n - i ∧ done ++ ordS k (n - i) sit = orderS n k ∧ vs = [SV b H.length i (n - i) 0, .int .i64 i] ∧ Rw H.length 0 H' (done ++ sit) ∧ Ext H H') _ [SV false H.length 0 n 0, .int .i64 0] rfl ⟨0, false, [], allS n, rfl, by omega, rfl, by simp [allS], rfl, rfl, r1, E1⟩ ?_)
  rintro m _ H2 ⟨i, b, done, sit, rfl, hi, hdl, hsl, hord, rfl, hrow, hE⟩
  refine L_reg [1, 5, 6, 10, 11, 12] (fun K hK => ?_)
  simp
  apply hK; clear hK K
  refine L_dec (i < n) (by simp) (fun hlt => ?_) (fun hge => L_exit ?_)
  · refine L_block ?_
    obtain ⟨j, hj⟩ : ∃ j, n - i = j + 1 := ⟨n - i - 1, by omega⟩
    have hlt2 : (k - 1) % (j + 1) < j + 1 := Nat.mod_lt _ (by omega)
    rw [hj] at hord hsl ⊢
    unfold ordS at hord
    refine L_reg [1, 5, 6, 10, 11] (fun K hK => ?_)
    simp [okFn_low]
    refine reached_ac b _ i (j + 1) 0 k (by omega) h3 h4 _ _ ?_
    simp [okFn_low]
    refine leave_ac b H.length 0 ((k - 1) % (j + 1)) i (j + 1) done sit _ _ hrow hdl hsl hlt2 (by omega) (fun H3 r3 k3 => ?_)
    simp
    apply hK; clear hK K
    refine L_reg [1, 5, 6, 10, 11] (fun K hK => ?_)
    simp [wrap_i64 (a := (i : Int) + 1) (by omega)]
    apply hK; clear hK K
    refine ⟨n - (i + 1), [SV true H.length (i + 1) j 0, .int .i64 (i + 1 : Nat)], by omega, by simp, i + 1, true, done ++ [g sit ((k - 1) % (j + 1))], rot sit ((k - 1) % (j + 1)), rfl, by omega, by simp [hdl], by rw [rot_len (by omega)]; omega, ?_, ?_, r3, k3.new hE (Nat.le_refl _)⟩
    · rw [show n - (i + 1) = j by omega, List.append_assoc]; exact hord
    · rw [show n - (i + 1) = j by omega]
  · have hi' : i = n := by omega
    subst hi'
    have hs : sit = [] := by
      apply List.eq_nil_of_length_eq_zero; omega
    subst hs
    rw [Nat.sub_self] at hord
    unfold ordS at hord
    rw [hord] at hrow
    refine L_reg [4] (fun K hK => ?_)
    simp
    apply hK; clear hK K
    have := hrow.ownF (N := H.length) (Nat.le_refl _)
    rw [orderS_len] at this
    exact L_ret ⟨.inr rfl, _, rfl, h _ H2 this hE⟩
end Go.Proofs.YtmlhekfkniibmaaDoor

/- The order in which rollers go, as the reference finds it; small functions of both. -/
namespace Go.Proofs.YtmlhekfkniibmaaDoor
open Go Go.Proofs.YtmlhekfkniibmaaDoor.AX

theorem isBench_ac (n : Int) (H : AH) (Q : AV → AH → Prop) (h : Q (.bool (decide (1 ≤ n ∧ n ≤ 20))) H) : AC Tryd.prog 16 [.int .i64 n] H Q := by
  refine L_body 9 Tryd.func16 rfl rfl ?_
  refine L_reg [0] (fun K hK => ?_)
  simp
  apply hK; clear hK K
  by_cases h1 : 1 ≤ n
  · by_cases h2 : n ≤ 20
    · refine L_reg [2] (fun K hK => ?_)
      simp [h1, h2, pickV]
      apply hK; clear hK K
      exact L_ret ⟨.inr rfl, _, rfl, by simpa [h1, h2] using h⟩
    · refine L_reg [2] (fun K hK => ?_)
      simp [h1, h2, pickV]
      apply hK; clear hK K
      exact L_ret ⟨.inr rfl, _, rfl, by simpa [h1, h2] using h⟩
  · refine L_reg [2] (fun K hK => ?_)
    simp [h1, pickV]
    apply hK; clear hK K
    exact L_ret ⟨.inr rfl, _, rfl, by simpa [h1] using h⟩
theorem isRoller_ac (n x : Int) (H : AH) (Q : AV → AH → Prop) (h : Q (.bool (decide (0 ≤ x ∧ x < n))) H) : AC Tryd.prog 41 [.int .i64 n, .int .i64 x] H Q := by
  refine L_body 12 Tryd.func41 rfl rfl ?_
  refine L_reg [0, 1] (fun K hK => ?_)
  simp
  apply hK; clear hK K
  by_cases h1 : 0 ≤ x
  · by_cases h2 : x < n
    · refine L_reg [4] (fun K hK => ?_)
      simp [h1, h2, pickV]
      apply hK; clear hK K
      exact L_ret ⟨.inr rfl, _, rfl, by simpa [h1, h2] using h⟩
    · refine L_reg [4] (fun K hK => ?_)
      simp [h1, h2, pickV]
      apply hK; clear hK K
      exact L_ret ⟨.inr rfl, _, rfl, by simpa [h1, h2] using h⟩
  · refine L_reg [4] (fun K hK => ?_)
    simp [h1, pickV]
    apply hK; clear hK K
    exact L_ret ⟨.inr rfl, _, rfl, by simpa [h1] using h⟩
/-- Whether rollers and a count are in range. -/
def okB (n k : Int) : Prop := (1 ≤ n ∧ n ≤ 20) ∧ 1 ≤ k ∧ k ≤ 1000000000
instance (n k : Int) : Decidable (okB n k) := by unfold okB; infer_instance
def benchE (n k : Int) : Int := if okB n k then 0 else 1
def oneE (n k x : Int) : Int := if okB n k then (if 0 ≤ x ∧ x < n then 0 else 2) else 1
theorem check_ac (n k : Int) (H : AH) (Q : AV → AH → Prop) (h : Q (.int .i64 (benchE n k)) H) : AC Tryd.prog 18 [.int .i64 n, .int .i64 k] H Q := by
  refine L_body 16 Tryd.func18 rfl rfl ?_
  refine L_reg [0, 1] (fun K hK => ?_)
  simp
  apply hK; clear hK K
  unfold benchE at h
  by_cases h1 : 1 ≤ n ∧ n ≤ 20
  · by_cases h2 : 1 ≤ k
    · by_cases h3 : k ≤ 1000000000
      · rw [if_pos ⟨h1, h2, h3⟩] at h
        have g2 : ¬ k < 1 := by omega
        have g3 : ¬ k > 1000000000 := by omega
        refine L_reg [15] (fun K hK => ?_)
        simp [okFn_low]
        refine isBench_ac _ _ _ ?_
        simp [h1, g2, g3, pickV]
        apply hK; clear hK K
        refine L_false (by simp) ?_
        refine L_reg [4] (fun K hK => ?_)
        simp
        apply hK; clear hK K
        exact L_ret ⟨.inr rfl, _, rfl, h⟩
      · rw [if_neg (fun e => h3 e.2.2)] at h
        have g2 : ¬ k < 1 := by omega
        have g3 : k > 1000000000 := by omega
        refine L_reg [15] (fun K hK => ?_)
        simp [okFn_low]
        refine isBench_ac _ _ _ ?_
        simp [h1, g2, g3, pickV]
        apply hK; clear hK K
        refine L_true (by simp) ?_
        refine L_reg [4] (fun K hK => ?_)
        simp
        apply hK; clear hK K
        exact L_ret ⟨.inr rfl, _, rfl, h⟩
    · rw [if_neg (fun e => h2 e.2.1)] at h
      have g2 : k < 1 := by omega
      refine L_reg [15] (fun K hK => ?_)
      simp [okFn_low]
      refine isBench_ac _ _ _ ?_
      simp [h1, g2, pickV]
      apply hK; clear hK K
      refine L_true (by simp) ?_
      refine L_reg [4] (fun K hK => ?_)
      simp
      apply hK; clear hK K
      exact L_ret ⟨.inr rfl, _, rfl, h⟩
  · rw [if_neg (fun e => h1 e.1)] at h
    refine L_reg [15] (fun K hK => ?_)
    simp [okFn_low]
    refine isBench_ac _ _ _ ?_
    simp [decide_eq_false h1, pickV]
    apply hK; clear hK K
    refine L_true (by simp) ?_
    refine L_reg [4] (fun K hK => ?_)
    simp
    apply hK; clear hK K
    exact L_ret ⟨.inr rfl, _, rfl, h⟩
theorem checkOne_ac (n k x : Int) (H : AH) (Q : AV → AH → Prop) (h : Q (.int .i64 (oneE n k x)) H) : AC Tryd.prog 20 [.int .i64 n, .int .i64 k, .int .i64 x] H Q := by
  refine L_body 18 Tryd.func20 rfl rfl ?_
  refine L_reg [0, 1, 2] (fun K hK => ?_)
  simp
  apply hK; clear hK K
  refine L_reg [0, 2, 7] (fun K hK => ?_)
  simp [okFn_low]
  refine check_ac n k _ _ ?_
  simp
  apply hK; clear hK K
  refine L_reg [0, 2, 7, 12] (fun K hK => ?_)
  simp
  apply hK; clear hK K
  unfold oneE at h
  by_cases h1 : okB n k
  · have e1 : benchE n k = 0 := by unfold benchE; rw [if_pos h1]
    rw [if_pos h1] at h
    refine L_false (by simp [e1]) ?_
    by_cases h2 : 0 ≤ x ∧ x < n
    · rw [if_pos h2] at h
      refine L_reg [17] (fun K hK => ?_)
      simp [okFn_low]
      refine isRoller_ac _ _ _ _ ?_
      simp [h2]
      apply hK; clear hK K
      refine L_false (by simp) ?_
      refine L_reg [6] (fun K hK => ?_)
      simp
      apply hK; clear hK K
      exact L_ret ⟨.inr rfl, _, rfl, h⟩
    · rw [if_neg h2] at h
      refine L_reg [17] (fun K hK => ?_)
      simp [okFn_low]
      refine isRoller_ac _ _ _ _ ?_
      simp [decide_eq_false h2]
      apply hK; clear hK K
      refine L_true (by simp) ?_
      refine L_reg [6] (fun K hK => ?_)
      simp
      apply hK; clear hK K
      exact L_ret ⟨.inr rfl, _, rfl, h⟩
  · have e1 : benchE n k = 1 := by unfold benchE; rw [if_neg h1]
    rw [if_neg h1] at h
    refine L_true (by simp [e1]) ?_
    rw [← e1] at h
    refine L_reg [6] (fun K hK => ?_)
    simp
    apply hK; clear hK K
    exact L_ret ⟨.inr rfl, _, rfl, h⟩
end Go.Proofs.YtmlhekfkniibmaaDoor

/- Order, Last, When and Who, of both. -/
namespace Go.Proofs.YtmlhekfkniibmaaDoor
open Go Go.Proofs.YtmlhekfkniibmaaDoor.AX

theorem okB_nat {n k : Int} (h : okB n k) : ∃ a b : Nat, n = a ∧ k = b ∧ 1 ≤ a ∧ a ≤ 20 ∧ 1 ≤ b ∧ b ≤ 1000000000 := by
  obtain ⟨⟨h1, h2⟩, h3, h4⟩ := h
  exact ⟨n.toNat, k.toNat, by omega, by omega, by omega, by omega, by omega, by omega⟩
theorem benchE_ok {n k : Int} (h : okB n k) : benchE n k = 0 := by unfold benchE; rw [if_pos h]
theorem benchE_no {n k : Int} (h : ¬ okB n k) : benchE n k = 1 := by unfold benchE; rw [if_neg h]
def orderP (n k : Int) : List Int := if okB n k then orderS n.toNat k.toNat else []
theorem Order_ac (n k : Int) (H : AH) (Q : AV → AH → Prop) (h : ∀ v H', OwnF H.length H' v ((orderP n k).map (.int .i64)) → Ext H H' → Q (.tuple [v, .int .i64 (benchE n k)]) H') : AC Tryd.prog 6 [.int .i64 n, .int .i64 k] H Q := by
  refine L_body 16 Tryd.func6 rfl rfl ?_
  refine L_reg [0, 1] (fun K hK => ?_)
  simp
  apply hK; clear hK K
  refine L_reg [0, 1, 6] (fun K hK => ?_)
  simp [okFn_low]
  refine check_ac n k _ _ ?_
  simp
  apply hK; clear hK K
  refine L_reg [0, 1, 6, 11] (fun K hK => ?_)
  simp
  apply hK; clear hK K
  unfold orderP at h
  by_cases h0 : okB n k
  · have e0 := benchE_ok h0
    refine L_false (by simp [e0]) ?_
    rw [if_pos h0, e0] at h
    obtain ⟨n, k, rfl, rfl, a1, a2, a3, a4⟩ := okB_nat h0
    simp only [Int.toNat_natCast] at h
    refine L_reg [4, 5] (fun K hK => ?_)
    simp [okFn_low]
    refine order_ac n k (by omega) (by omega) (by omega) _ _ (fun v H1 o1 E1 => ?_)
    simp
    apply hK; clear hK K
    exact L_ret ⟨.inr rfl, _, rfl, h v H1 o1 E1⟩
  · have e0 := benchE_no h0
    rw [if_neg h0] at h
    refine L_true (by simp [e0]) ?_
    refine L_reg [4, 5] (fun K hK => ?_)
    simp
    apply hK; clear hK K
    exact L_ret ⟨.inr rfl, _, rfl, h _ _ (.nil _ _) (.refl _)⟩
def lastP (n k : Int) : Int := if okB n k then g (orderS n.toNat k.toNat) (n.toNat - 1) else 0
/-- The first place of a number in a list, or -1. -/
def idx (x : Int) : List Int → Int
  | [] => -1
  | y :: l => if x = y then 0 else (if idx x l = -1 then -1 else idx x l + 1)
theorem idx_ge (x : Int) : ∀ l, -1 ≤ idx x l
  | [] => by simp [idx]
  | y :: l => by
    have := idx_ge x l
    simp only [idx]
    split
    · omega
    · split <;> omega
theorem idx_lt (x : Int) : ∀ l, idx x l < l.length
  | [] => by simp [idx]
  | y :: l => by
    have := idx_lt x l
    simp only [idx, List.length_cons]
    split
    · omega
    · split <;> omega
theorem idx_drop {x : Int} {l : List Int} {i : Nat} (hi : i < l.length) (hne : g l i ≠ x) : idx x (l.drop i) = if idx x (l.drop (i + 1)) = -1 then -1 else idx x (l.drop (i + 1)) + 1 := by
  rw [List.drop_eq_getElem_cons hi, ← g_lt hi]
  simp only [idx]
  rw [if_neg (fun e => hne e.symm)]
theorem idx_here {x : Int} {l : List Int} {i : Nat} (hi : i < l.length) (h : g l i = x) : idx x (l.drop i) = 0 := by
  rw [List.drop_eq_getElem_cons hi, ← g_lt hi]
  simp only [idx]
  rw [if_pos h.symm]
/-- The same, from a place on. -/
def off (i : Nat) (y : Int) : Int := if y = -1 then -1 else i + y
theorem off_step {x : Int} {l : List Int} {i : Nat} (hi : i < l.length) (hne : g l i ≠ x) : off i (idx x (l.drop i)) = off (i + 1) (idx x (l.drop (i + 1))) := by
  rw [idx_drop hi hne]
  have := idx_ge x (l.drop (i + 1))
  unfold off
  generalize idx x (l.drop (i + 1)) = y at *
  by_cases h : y = -1
  · simp [h]
  · rw [if_neg h, if_neg h, if_neg (by omega)]; omega
theorem Index_ac (v : AV) (l : List Int) (x : Int) (H : AH) (Q : AV → AH → Prop) (hlen : l.length ≤ 1000000) (hv : Ls H v l) (h : Q (.int .i64 (idx x l)) H) : AC Tryd.prog 21 [v, .int .i64 x] H Q := by
  obtain ⟨r, of, ver, sz, full, rfl, hld⟩ := hv
  refine L_body 19 Tryd.func21 rfl rfl ?_
  refine L_reg [0, 1] (fun K hK => ?_)
  simp
  apply hK; clear hK K
  refine L_reg [0, 1, 7, 8] (fun K hK => ?_)
  simp
  apply hK; clear hK K
  refine L_block (L_loopV [8] (fun n vs H' => ∃ i : Nat, n = l.length - i ∧ i ≤ l.length ∧ off i (idx x (l.drop i)) = idx x l ∧ vs = [.int .i64 i] ∧ H = H') _ [.int .i64 0] rfl ⟨0, rfl, by omega, by unfold off; rw [List.drop_zero]; split <;> omega, rfl, rfl⟩ ?_)
  rintro n _ _ ⟨i, rfl, hi, hno, rfl, rfl⟩
  refine L_reg [0, 1, 7, 8, 9] (fun K hK => ?_)
  simp
  apply hK; clear hK K
  refine L_dec (i < l.length) (by simp) (fun hlt => ?_) (fun hge => L_exit ?_)
  · refine L_block ?_
    obtain ⟨r', rfl, rfl, hrd⟩ := hld i hlt
    rw [← g_lt hlt] at hrd
    refine L_reg [0, 1, 5, 7, 8] (fun K hK => ?_)
    simp
    apply hK; clear hK K
    refine L_reg [0, 1, 5, 7, 8, 16] (fun K hK => ?_)
    simp [hrd, hlt]
    apply hK; clear hK K
    by_cases e : x = g l i
    · refine L_true (by simp [← e]) ?_
      rw [idx_here hlt e.symm] at hno
      have e3 : off i 0 = i := by unfold off; rw [if_neg (by omega)]; omega
      rw [e3] at hno
      rw [← hno] at h
      refine L_reg [4] (fun K hK => ?_)
      simp
      apply hK; clear hK K
      exact L_ret ⟨.inr rfl, _, rfl, h⟩
    · refine L_false (by simp [e]) ?_
      rw [off_step hlt (fun h => e h.symm)] at hno
      refine L_reg [0, 1, 7, 8] (fun K hK => ?_)
      simp [wrap_i64 (a := (i : Int) + 1) (by omega)]
      apply hK; clear hK K
      exact ⟨l.length - (i + 1), [.int .i64 (i + 1 : Nat)], by omega, by simp, i + 1, rfl, by omega, hno, rfl, rfl⟩
  · have hi' : i = l.length := by omega
    subst hi'
    rw [List.drop_length] at hno
    rw [← hno] at h
    refine L_reg [4] (fun K hK => ?_)
    simp
    apply hK; clear hK K
    exact L_ret ⟨.inr rfl, _, rfl, h⟩
theorem oneE_ok {n k x : Int} (h : okB n k) (hx : 0 ≤ x ∧ x < n) : oneE n k x = 0 := by unfold oneE; rw [if_pos h, if_pos hx]
theorem oneE_no {n k x : Int} (h : okB n k) (hx : ¬ (0 ≤ x ∧ x < n)) : oneE n k x = 2 := by unfold oneE; rw [if_pos h, if_neg hx]
theorem oneE_none {n k x : Int} (h : ¬ okB n k) : oneE n k x = 1 := by unfold oneE; rw [if_neg h]
def okO (n k x : Int) : Prop := okB n k ∧ 0 ≤ x ∧ x < n
instance (n k x : Int) : Decidable (okO n k x) := by unfold okO; infer_instance
theorem oneE_zero {n k x : Int} (h : okO n k x) : oneE n k x = 0 := oneE_ok h.1 h.2
theorem oneE_nz {n k x : Int} (h : ¬ okO n k x) : oneE n k x ≠ 0 := by
  unfold oneE
  by_cases h1 : okB n k
  · rw [if_pos h1, if_neg (fun h2 => h ⟨h1, h2⟩)]; decide
  · rw [if_neg h1]; decide
def whenP (n k x : Int) : Int := if okO n k x then idx x (orderS n.toNat k.toNat) else 0
def whoP (n k x : Int) : Int := if okO n k x then g (orderS n.toNat k.toNat) x.toNat else 0
theorem When_ac (n k x : Int) (H : AH) (Q : AV → AH → Prop) (h : ∀ H', Ext H H' → Q (.tuple [.int .i64 (whenP n k x), .int .i64 (oneE n k x)]) H') : AC Tryd.prog 7 [.int .i64 n, .int .i64 k, .int .i64 x] H Q := by
  refine L_body 21 Tryd.func7 rfl rfl ?_
  refine L_reg [0, 1, 2] (fun K hK => ?_)
  simp
  apply hK; clear hK K
  refine L_reg [0, 1, 2, 8] (fun K hK => ?_)
  simp [okFn_low]
  refine checkOne_ac n k x _ _ ?_
  simp
  apply hK; clear hK K
  refine L_reg [0, 1, 2, 8, 14] (fun K hK => ?_)
  simp
  apply hK; clear hK K
  unfold whenP at h
  by_cases h0 : okO n k x
  · have e0 := oneE_zero h0
    refine L_false (by simp [e0]) ?_
    rw [if_pos h0, e0] at h
    obtain ⟨n, k, rfl, rfl, a1, a2, a3, a4⟩ := okB_nat h0.1
    simp only [Int.toNat_natCast] at h
    have hl := orderS_len n k
    refine L_reg [6, 7] (fun K hK => ?_)
    simp [okFn_low]
    refine order_ac n k (by omega) (by omega) (by omega) _ _ (fun v H1 o1 E1 => ?_)
    simp [okFn_low]
    refine Index_ac v (orderS n k) x _ _ (by omega) o1.own.ls ?_
    simp
    apply hK; clear hK K
    exact L_ret ⟨.inr rfl, _, rfl, h H1 E1⟩
  · have e0 := oneE_nz h0
    rw [if_neg h0] at h
    refine L_true (by simp [e0]) ?_
    refine L_reg [6, 7] (fun K hK => ?_)
    simp
    apply hK; clear hK K
    exact L_ret ⟨.inr rfl, _, rfl, h _ (.refl _)⟩
theorem Who_ac (n k x : Int) (H : AH) (Q : AV → AH → Prop) (h : ∀ H', Ext H H' → Q (.tuple [.int .i64 (whoP n k x), .int .i64 (oneE n k x)]) H') : AC Tryd.prog 15 [.int .i64 n, .int .i64 k, .int .i64 x] H Q := by
  refine L_body 22 Tryd.func15 rfl rfl ?_
  refine L_reg [0, 1, 2] (fun K hK => ?_)
  simp
  apply hK; clear hK K
  refine L_reg [0, 1, 2, 8] (fun K hK => ?_)
  simp [okFn_low]
  refine checkOne_ac n k x _ _ ?_
  simp
  apply hK; clear hK K
  refine L_reg [0, 1, 2, 8, 14] (fun K hK => ?_)
  simp
  apply hK; clear hK K
  unfold whoP at h
  by_cases h0 : okO n k x
  · have e0 := oneE_zero h0
    refine L_false (by simp [e0]) ?_
    rw [if_pos h0, e0] at h
    obtain ⟨n, k, rfl, rfl, a1, a2, a3, a4⟩ := okB_nat h0.1
    obtain ⟨x, rfl⟩ : ∃ y : Nat, x = y := ⟨x.toNat, by have := h0.2; omega⟩
    have hx : x < n := by have := h0.2; omega
    simp only [Int.toNat_natCast] at h
    have hl := orderS_len n k
    refine L_reg [6, 7] (fun K hK => ?_)
    simp [okFn_low]
    refine order_ac n k (by omega) (by omega) (by omega) _ _ (fun v H1 o1 E1 => ?_)
    obtain ⟨r, off, ver, sz, full, rfl, hld⟩ := o1.own.ls
    obtain ⟨r', rfl, rfl, hrd⟩ := hld x (by omega)
    rw [← g_lt (by omega)] at hrd
    simp [hl, hx, hrd]
    apply hK; clear hK K
    exact L_ret ⟨.inr rfl, _, rfl, h H1 E1⟩
  · have e0 := oneE_nz h0
    rw [if_neg h0] at h
    refine L_true (by simp [e0]) ?_
    refine L_reg [6, 7] (fun K hK => ?_)
    simp
    apply hK; clear hK K
    exact L_ret ⟨.inr rfl, _, rfl, h _ (.refl _)⟩
end Go.Proofs.YtmlhekfkniibmaaDoor

/- How often a roller is counted; how many orders are possible. -/
namespace Go.Proofs.YtmlhekfkniibmaaDoor
open Go Go.Proofs.YtmlhekfkniibmaaDoor.AX

theorem rot_perm {l : List Int} {a : Nat} (h : a < l.length) : (g l a :: rot l a).Perm l := by
  have e : l = l.take a ++ (g l a :: l.drop (a + 1)) := by
    rw [g_lt h, ← List.drop_eq_getElem_cons h, List.take_append_drop]
  have h1 : (g l a :: rot l a).Perm (g l a :: (l.take a ++ l.drop (a + 1))) := List.Perm.cons _ List.perm_append_comm
  have h2 : (l.take a ++ (g l a :: l.drop (a + 1))).Perm (g l a :: (l.take a ++ l.drop (a + 1))) := List.perm_middle
  have h3 := h1.trans h2.symm
  rw [← e] at h3
  exact h3
theorem rot_nodup {l : List Int} {a : Nat} (h : a < l.length) (hd : l.Nodup) : g l a ∉ rot l a ∧ (rot l a).Nodup := by
  have := (rot_perm h).nodup_iff.2 hd
  rw [List.nodup_cons] at this
  exact this
theorem rot_mem {l : List Int} {a : Nat} (h : a < l.length) {x : Int} : x ∈ l ↔ x = g l a ∨ x ∈ rot l a := by
  rw [← (rot_perm h).mem_iff, List.mem_cons]
theorem idx_none {x : Int} : ∀ {l : List Int}, x ∉ l → idx x l = -1
  | [], _ => rfl
  | y :: l, h => by
    simp only [List.mem_cons, not_or] at h
    simp only [idx]
    rw [if_neg h.1, idx_none h.2, if_pos rfl]
theorem idx_mem {x : Int} : ∀ {l : List Int}, x ∈ l → 0 ≤ idx x l
  | y :: l, h => by
    simp only [idx]
    split
    · omega
    · rename_i hne
      have : x ∈ l := by
        rcases List.mem_cons.1 h with e | e
        · exact absurd e hne
        · exact e
      have := idx_mem this
      split <;> omega
theorem idx_get {x : Int} : ∀ {l : List Int} {p : Nat}, idx x l = p → p < l.length ∧ g l p = x
  | [], p, h => by simp only [idx] at h; omega
  | y :: l, p, h => by
    simp only [idx] at h
    split at h
    · rename_i e
      have : p = 0 := by omega
      subst this
      exact ⟨by simp, by simp [g, e]⟩
    · split at h
      · omega
      · have h0 := idx_ge x l
        obtain ⟨q, hq⟩ : ∃ q : Nat, idx x l = q := ⟨(idx x l).toNat, by omega⟩
        obtain ⟨h1, h2⟩ := idx_get hq
        have : p = q + 1 := by omega
        subst this
        exact ⟨by simp; omega, by simpa [g] using h2⟩
theorem g_inj {l : List Int} (hd : l.Nodup) {p q : Nat} (hp : p < l.length) (hq : q < l.length) (h : g l p = g l q) : p = q := by
  rw [g_lt hp, g_lt hq] at h
  have h1 := List.pairwise_iff_getElem.1 hd
  rcases Nat.lt_trichotomy p q with h2 | h2 | h2
  · exact absurd h (h1 p q hp hq h2)
  · exact h2
  · exact absurd h.symm (h1 q p hq hp h2)
theorem allS_nodup (n : Nat) : (allS n).Nodup := List.Pairwise.map Int.ofNat (fun _ _ h e => h (Int.ofNat.inj e)) List.nodup_range
theorem mem_allS {n : Nat} {x : Int} : x ∈ allS n ↔ 0 ≤ x ∧ x < n := by
  simp only [allS, List.mem_map, List.mem_range]
  constructor
  · rintro ⟨i, hi, rfl⟩
    have : Int.ofNat i = (i : Int) := rfl
    omega
  · rintro ⟨h1, h2⟩; exact ⟨x.toNat, by omega, by have : Int.ofNat x.toNat = (x.toNat : Int) := rfl; omega⟩
def cntS (k : Nat) (x : Int) : Nat → List Int → Nat
  | 0, _ => 0
  | m + 1, l => if idx x l = -1 then 0 else (k + m - (idx x l).toNat) / (m + 1) + cntS k x m (rot l ((k - 1) % (m + 1)))
theorem cntS_none {k : Nat} {x : Int} : ∀ {m : Nat} {l : List Int}, idx x l = -1 → cntS k x m l = 0
  | 0, _, _ => rfl
  | m + 1, l, h => by simp only [cntS]; rw [if_pos h]
theorem times_le {k m p : Nat} (hk : 1 ≤ k) : (k + m - p) / (m + 1) ≤ k := by
  apply Nat.le_of_lt_succ
  rw [Nat.div_lt_iff_lt_mul (by omega)]
  have : m + 1 ≤ (k.succ) * (m + 1) - k * (m + 1) := by rw [Nat.succ_mul]; omega
  have h2 : k ≤ k * (m + 1) := Nat.le_mul_of_pos_right k (by omega)
  have h3 : k.succ * (m + 1) = k * (m + 1) + (m + 1) := Nat.succ_mul _ _
  omega
def cntN (n k : Nat) (x : Int) : Nat := cntS k x n (allS n)
theorem rem_split {k m p : Nat} (hp : p < m + 1) : (k + m - p) / (m + 1) = k / (m + 1) + (if p < k % (m + 1) then 1 else 0) := by
  have h1 := Nat.div_add_mod k (m + 1)
  have h2 := Nat.mod_lt k (show 0 < m + 1 by omega)
  generalize k % (m + 1) = r at *
  generalize k / (m + 1) = q at *
  subst h1
  have e : (m + 1) * q + r + m - p = (r + m - p) + (m + 1) * q := by omega
  rw [e, Nat.add_mul_div_left _ _ (by omega)]
  split
  · rename_i h; rw [Nat.div_eq_of_lt_le (k := 1) (by omega) (by omega)]; omega
  · rename_i h; rw [Nat.div_eq_of_lt (by omega)]; omega
end Go.Proofs.YtmlhekfkniibmaaDoor

/- How many orders are possible. -/
namespace Go.Proofs.YtmlhekfkniibmaaDoor
open Go Go.Proofs.YtmlhekfkniibmaaDoor.AX
theorem tmod_nat (a b : Nat) : ((a : Int)).tmod (b : Int) = ((a % b : Nat) : Int) := by rw [Int.tmod_eq_emod_of_nonneg (by omega)]; rfl
/-- The multiples of a, up to one that b divides. -/
theorem lcm_found {a b j : Nat} (ha : 0 < a) (hb : 0 < b) (hj : 0 < j) (hd : b ∣ a * j) (hmin : ∀ i, 0 < i → i < j → ¬ b ∣ a * i) : a * j = Nat.lcm a b := by
  have h1 : Nat.lcm a b ∣ a * j := Nat.lcm_dvd (Nat.dvd_mul_right a j) hd
  obtain ⟨i, hi⟩ := Nat.dvd_lcm_left a b
  have hi0 : 0 < i := by
    rcases Nat.eq_zero_or_pos i with e | e
    · rw [e, Nat.mul_zero] at hi
      have := Nat.lcm_pos ha hb; omega
    · exact e
  have h2 : b ∣ a * i := by rw [← hi]; exact Nat.dvd_lcm_right a b
  have h3 : j ≤ i := by
    rcases Nat.lt_or_ge i j with e | e
    · exact absurd h2 (hmin i hi0 e)
    · exact e
  have h4 : a * j ≤ Nat.lcm a b := by rw [hi]; exact Nat.mul_le_mul_left a h3
  exact Nat.le_antisymm h4 (Nat.le_of_dvd (Nat.mul_pos ha hj) h1)
theorem common_ac (a b : Nat) (ha : 0 < a) (ha2 : a ≤ 1000000000000) (hb : 0 < b) (hb2 : b ≤ 1000) (H : AH) (Q : AV → AH → Prop) (h : Q (.int .i64 (Nat.lcm a b : Nat)) H) : AC Tryd.prog 37 [.int .i64 a, .int .i64 b] H Q := by
  refine L_body 15 Tryd.func37 rfl rfl ?_
  refine L_reg [0, 1] (fun K hK => ?_)
  simp
  apply hK; clear hK K
  refine L_reg [0, 1, 5] (fun K hK => ?_)
  simp
  apply hK; clear hK K
  have hab : a * b ≤ 1000000000000 * 1000 := Nat.mul_le_mul ha2 hb2
  have hb0 : b ≠ 0 := by omega
  refine L_block (L_loopV [5] (fun n vs H' => ∃ (j c : Nat), n = b - j ∧ 0 < j ∧ j ≤ b ∧ c = a * j ∧ (∀ i, 0 < i → i < j → ¬ b ∣ a * i) ∧ vs = [.int .i64 c] ∧ H = H') _ [.int .i64 a] rfl ⟨1, a, rfl, by omega, by omega, by simp, fun i h1 h2 => by omega, rfl, rfl⟩ ?_)
  rintro n _ _ ⟨j, c, rfl, hj0, hj, hc, hmin, rfl, rfl⟩
  have em := tmod_nat c b
  generalize hm : c % b = m at em
  refine L_reg [0, 1, 5, 10] (fun K hK => ?_)
  simp [hb0, em]
  apply hK; clear hK K
  by_cases h0 : m = 0
  · refine L_false (by simp [h0]) (L_exit ?_)
    have hd : b ∣ a * j := by rw [← hc]; exact Nat.dvd_of_mod_eq_zero (by omega)
    rw [← lcm_found ha hb hj0 hd hmin, ← hc] at h
    refine L_reg [4] (fun K hK => ?_)
    simp
    apply hK; clear hK K
    exact L_ret ⟨.inr rfl, _, rfl, h⟩
  · refine L_true (by simp [h0]) (L_block ?_)
    have hjb : j < b := by
      rcases Nat.lt_or_ge j b with e | e
      · exact e
      · have : j = b := by omega
        subst this
        rw [hc, Nat.mul_mod_left] at hm; omega
    have hcb : c ≤ 1000000000000 * 1000 := by rw [hc]; exact Nat.le_trans (Nat.mul_le_mul_left a (by omega)) hab
    have hs : c + a = a * (j + 1) := by rw [hc, Nat.mul_succ]
    refine L_reg [0, 1, 5] (fun K hK => ?_)
    simp [wrap_i64 (a := (c : Int) + a) (by omega)]
    apply hK; clear hK K
    refine ⟨b - (j + 1), [.int .i64 (c + a : Nat)], by omega, by simp, j + 1, c + a, rfl, by omega, by omega, hs, fun i h1 h2 => ?_, rfl, rfl⟩
    by_cases e : i = j
    · subst e
      intro hd
      rw [hc, Nat.mod_eq_zero_of_dvd hd] at hm; omega
    · exact hmin i h1 (by omega)
def lcmS : Nat → Nat
  | 0 => 1
  | n + 1 => Nat.lcm (lcmS n) (n + 1)
theorem lcmS_pos : ∀ n, 0 < lcmS n
  | 0 => by decide
  | n + 1 => Nat.lcm_pos (lcmS_pos n) (by omega)
theorem lcmS_mono : ∀ {n m : Nat}, n ≤ m → lcmS n ∣ lcmS m
  | n, 0, h => by rw [show n = 0 by omega]; exact Nat.dvd_refl _
  | n, m + 1, h => by
    rcases Nat.lt_or_ge n (m + 1) with e | e
    · exact Nat.dvd_trans (lcmS_mono (by omega)) (Nat.dvd_lcm_left _ _)
    · rw [show n = m + 1 by omega]; exact Nat.dvd_refl _
theorem lcmS_20 : lcmS 20 = 232792560 := by decide +kernel
theorem lcmS_le {n : Nat} (h : n ≤ 20) : lcmS n ≤ 232792560 := by rw [← lcmS_20]; exact Nat.le_of_dvd (lcmS_pos _) (lcmS_mono h)
theorem orders_ac (n : Nat) (hn : n ≤ 20) (H : AH) (Q : AV → AH → Prop) (h : Q (.int .i64 (lcmS n : Nat)) H) : AC Tryd.prog 17 [.int .i64 n] H Q := by
  refine L_body 15 Tryd.func17 rfl rfl ?_
  refine L_reg [0] (fun K hK => ?_)
  simp
  apply hK; clear hK K
  refine L_reg [0, 3] (fun K hK => ?_)
  simp
  apply hK; clear hK K
  refine L_reg [3, 5, 6] (fun K hK => ?_)
  simp
  apply hK; clear hK K
  refine L_block (L_loopV [3, 6] (fun m vs H' => ∃ (i c : Nat), m = n - i ∧ i ≤ n ∧ c = lcmS i ∧ vs = [.int .i64 c, .int .i64 i] ∧ H = H') _ [.int .i64 1, .int .i64 0] rfl ⟨0, 1, rfl, by omega, rfl, rfl, rfl⟩ ?_)
  rintro m _ _ ⟨i, c, rfl, hi, hc, rfl, rfl⟩
  refine L_reg [3, 5, 6, 7] (fun K hK => ?_)
  simp
  apply hK; clear hK K
  refine L_dec (i < n) (by simp) (fun hlt => ?_) (fun hge => L_exit ?_)
  · refine L_block ?_
    have h0 := lcmS_pos i
    have h1 := lcmS_le (show i ≤ 20 by omega)
    have h2 := common_ac c (i + 1) (by omega) (by omega) (by omega) (by omega) H
    push_cast at h2
    have e : Nat.lcm c (i + 1) = lcmS (i + 1) := by rw [hc]; rfl
    rw [e] at h2
    generalize hd : lcmS (i + 1) = d at *
    refine L_reg [3, 4, 5, 6] (fun K hK => ?_)
    simp
    apply hK; clear hK K
    refine L_reg [3, 5, 6] (fun K hK => ?_)
    simp [okFn_low, wrap_i64 (a := (i : Int) + 1) (by omega)]
    refine h2 _ ?_
    simp
    apply hK; clear hK K
    refine L_reg [3, 5, 6] (fun K hK => ?_)
    simp [wrap_i64 (a := (i : Int) + 1) (by omega)]
    apply hK; clear hK K
    exact ⟨n - (i + 1), [.int .i64 d, .int .i64 (i + 1 : Nat)], by omega, by simp, i + 1, d, rfl, by omega, hd.symm, rfl, rfl⟩
  · have : i = n := by omega
    subst this
    rw [← hc] at h
    refine L_reg [2] (fun K hK => ?_)
    simp
    apply hK; clear hK K
    exact L_ret ⟨.inr rfl, _, rfl, h⟩
def ordersP (n : Int) : Int := if 1 ≤ n ∧ n ≤ 20 then (lcmS n.toNat : Int) else 0
def rangeE (n : Int) : Int := if 1 ≤ n ∧ n ≤ 20 then 0 else 1
theorem Orders_ac (n : Int) (H : AH) (Q : AV → AH → Prop) (h : Q (.tuple [.int .i64 (ordersP n), .int .i64 (rangeE n)]) H) : AC Tryd.prog 5 [.int .i64 n] H Q := by
  refine L_body 9 Tryd.func5 rfl rfl ?_
  refine L_reg [0] (fun K hK => ?_)
  simp
  apply hK; clear hK K
  unfold ordersP rangeE at h
  by_cases h1 : 1 ≤ n ∧ n ≤ 20
  · rw [if_pos h1, if_pos h1] at h
    refine L_reg [0, 6] (fun K hK => ?_)
    simp [okFn_low]
    refine isBench_ac n _ _ ?_
    simp [decide_eq_true h1]
    apply hK; clear hK K
    refine L_false (by simp) ?_
    obtain ⟨n, rfl⟩ : ∃ y : Nat, n = y := ⟨n.toNat, by omega⟩
    simp only [Int.toNat_natCast] at h
    refine L_reg [2, 3] (fun K hK => ?_)
    simp [okFn_low]
    refine orders_ac n (by omega) _ _ ?_
    simp
    apply hK; clear hK K
    exact L_ret ⟨.inr rfl, _, rfl, h⟩
  · rw [if_neg h1, if_neg h1] at h
    refine L_reg [0, 6] (fun K hK => ?_)
    simp [okFn_low]
    refine isBench_ac n _ _ ?_
    simp [decide_eq_false h1]
    apply hK; clear hK K
    refine L_true (by simp) ?_
    refine L_reg [2, 3] (fun K hK => ?_)
    simp
    apply hK; clear hK K
    exact L_ret ⟨.inr rfl, _, rfl, h⟩
end Go.Proofs.YtmlhekfkniibmaaDoor

/- Orders are checked. -/
namespace Go.Proofs.YtmlhekfkniibmaaDoor
open Go Go.Proofs.YtmlhekfkniibmaaDoor.AX

@[simp] theorem lenS22 (b : Bool) (r off len ver : Nat) : aLen Tryd.prog 26 (SV b r off len ver) = some (.int .i64 len) := by
  cases b
  · exact len26 ..
  · unfold aLen SV; rw [und22]; rfl
@[simp] theorem ixaS22 (b : Bool) (r off len ver : Nat) (k : IntKind) (i : Int) : aIndexAddr Tryd.prog 26 (SV b r off len ver) (.int k i) = if 0 ≤ i ∧ i < len then some (.ptr r (off + i.toNat) ver) else none := by
  cases b
  · have := ixa26 r off len ver false k i
    rw [Nat.mul_one] at this
    exact this
  · obtain ⟨ie, h1, h2⟩ := inf3
    unfold aIndexAddr SV
    rw [und22]
    simp [h1, h2]
theorem sliceS22 {full : Bool} {r off len ver hi : Nat} (h2 : hi ≤ len) : aSlice Tryd.prog 26 (.slice (some r) off len ver 1 full) none (some (.int .i64 (hi : Int))) (some (.int .i64 (hi : Int))) = some (SV true r off hi ver) := by
  obtain ⟨ie, g1, g2⟩ := inf3
  simp [aSlice, SV, g1, g2, aBounds, aBound, h2, clipOf]
theorem IndexC_ac (b : Bool) (r ver off n : Nat) (x : Int) (l : List Int) (H : AH) (Q : AV → AH → Prop) (hr : ∀ i, i < n → ld H r (off + i) ver = some (.int .i64 (g l i))) (hn : l.length = n) (hlen : n ≤ 1000000) (h : Q (.int .i64 (idx x l)) H) : AC Tryd.prog 21 [SV b r off n ver, .int .i64 x] H Q := by
  refine L_body 19 Tryd.func21 rfl rfl ?_
  refine L_reg [0, 1] (fun K hK => ?_)
  simp
  apply hK; clear hK K
  refine L_reg [0, 1, 7, 8] (fun K hK => ?_)
  simp
  apply hK; clear hK K
  refine L_block (L_loopV [8] (fun m vs H' => ∃ i : Nat, m = n - i ∧ i ≤ n ∧ Go.Proofs.YtmlhekfkniibmaaDoor.off i (idx x (l.drop i)) = idx x l ∧ vs = [.int .i64 i] ∧ H = H') _ [.int .i64 0] rfl ⟨0, rfl, by omega, by unfold Go.Proofs.YtmlhekfkniibmaaDoor.off; rw [List.drop_zero]; split <;> omega, rfl, rfl⟩ ?_)
  rintro m _ _ ⟨i, rfl, hi, hno, rfl, rfl⟩
  refine L_reg [0, 1, 7, 8, 9] (fun K hK => ?_)
  simp
  apply hK; clear hK K
  refine L_dec (i < n) (by simp) (fun hlt => ?_) (fun hge => L_exit ?_)
  · refine L_block ?_
    have hrd := hr i hlt
    have hil : i < l.length := by omega
    refine L_reg [0, 1, 5, 7, 8] (fun K hK => ?_)
    simp
    apply hK; clear hK K
    refine L_reg [0, 1, 5, 7, 8, 16] (fun K hK => ?_)
    simp [hrd, hlt]
    apply hK; clear hK K
    by_cases e : x = g l i
    · refine L_true (by simp [← e]) ?_
      rw [idx_here hil e.symm] at hno
      have e3 : Go.Proofs.YtmlhekfkniibmaaDoor.off i 0 = i := by unfold Go.Proofs.YtmlhekfkniibmaaDoor.off; rw [if_neg (by omega)]; omega
      rw [e3] at hno
      rw [← hno] at h
      refine L_reg [4] (fun K hK => ?_)
      simp
      apply hK; clear hK K
      exact L_ret ⟨.inr rfl, _, rfl, h⟩
    · refine L_false (by simp [e]) ?_
      rw [off_step hil (fun h => e h.symm)] at hno
      refine L_reg [0, 1, 7, 8] (fun K hK => ?_)
      simp [wrap_i64 (a := (i : Int) + 1) (by omega)]
      apply hK; clear hK K
      exact ⟨n - (i + 1), [.int .i64 (i + 1 : Nat)], by omega, by simp, i + 1, rfl, by omega, hno, rfl, rfl⟩
  · have hi' : i = l.length := by omega
    subst hi'
    rw [List.drop_length] at hno
    rw [← hno] at h
    refine L_reg [4] (fun K hK => ?_)
    simp
    apply hK; clear hK K
    exact L_ret ⟨.inr rfl, _, rfl, h⟩
theorem idx_iff {x : Int} {l : List Int} : 0 ≤ idx x l ↔ x ∈ l := by
  constructor
  · intro h
    obtain ⟨p, hp⟩ : ∃ p : Nat, idx x l = p := ⟨(idx x l).toNat, by omega⟩
    obtain ⟨h1, h2⟩ := idx_get hp
    rw [← h2, g_lt h1]; simp
  · exact idx_mem
theorem ContainsC_ac (b : Bool) (r ver off n : Nat) (x : Int) (l : List Int) (H : AH) (Q : AV → AH → Prop) (hr : ∀ i, i < n → ld H r (off + i) ver = some (.int .i64 (g l i))) (hn : l.length = n) (hlen : n ≤ 1000000) (h : Q (.bool (decide (x ∈ l))) H) : AC Tryd.prog 61 [SV b r off n ver, .int .i64 x] H Q := by
  refine L_body 9 Tryd.func61 rfl rfl ?_
  refine L_reg [0, 1] (fun K hK => ?_)
  simp
  apply hK; clear hK K
  refine L_reg [4] (fun K hK => ?_)
  simp [okFn_low]
  refine IndexC_ac b r ver off n x l _ _ hr hn hlen ?_
  simp
  apply hK; clear hK K
  have e : decide (0 ≤ idx x l) = decide (x ∈ l) := decide_eq_decide.2 idx_iff
  exact L_ret ⟨.inr rfl, _, rfl, by first | (simpa [e] using h) | (simp only [← e] at h; simpa using h)⟩
theorem Contains_ac (v : AV) (x : Int) (l : List Int) (H : AH) (Q : AV → AH → Prop) (hv : Ls H v l) (hlen : l.length ≤ 1000000) (h : Q (.bool (decide (x ∈ l))) H) : AC Tryd.prog 61 [v, .int .i64 x] H Q := by
  obtain ⟨r, off, ver, sz, full, rfl, -⟩ := id hv
  refine L_body 9 Tryd.func61 rfl rfl ?_
  refine L_reg [0, 1] (fun K hK => ?_)
  simp
  apply hK; clear hK K
  refine L_reg [4] (fun K hK => ?_)
  simp [okFn_low]
  refine Index_ac _ l x _ _ hlen hv ?_
  simp
  apply hK; clear hK K
  have e : decide (0 ≤ idx x l) = decide (x ∈ l) := decide_eq_decide.2 idx_iff
  exact L_ret ⟨.inr rfl, _, rfl, by first | (simpa [e] using h) | (simp only [← e] at h; simpa using h)⟩
/-- What a check of an order says, from a place on. -/
def chkS (n : Nat) (pre : List Int) : List Int → Int
  | [] => 0
  | x :: l => if 0 ≤ x ∧ x < n then (if x ∈ pre then 6 else chkS n (pre ++ [x]) l) else 2
def checkP (l : List Int) : Int := if 1 ≤ l.length ∧ l.length ≤ 20 then chkS l.length [] l else 1
theorem chkS_step {n i : Nat} {l : List Int} (hi : i < l.length) : chkS n (l.take i) (l.drop i) = if 0 ≤ g l i ∧ g l i < n then (if g l i ∈ l.take i then 6 else chkS n (l.take (i + 1)) (l.drop (i + 1))) else 2 := by
  rw [List.drop_eq_getElem_cons hi, ← g_lt hi]
  simp only [chkS]
  have : l.take i ++ [g l i] = l.take (i + 1) := by rw [g_lt hi]; simp
  rw [this]
theorem chkS_zero {n : Nat} : ∀ {l pre : List Int}, chkS n pre l = 0 → (∀ x ∈ l, 0 ≤ x ∧ x < n) ∧ (∀ x ∈ l, x ∉ pre) ∧ l.Nodup
  | [], _, _ => ⟨by simp, by simp, .nil⟩
  | x :: l, pre, h => by
    simp only [chkS] at h
    split at h
    · rename_i h1
      split at h
      · cases h
      · rename_i h2
        obtain ⟨a, b, c⟩ := chkS_zero h
        refine ⟨?_, ?_, ?_⟩
        · intro y hy
          rcases List.mem_cons.1 hy with e | e
          · rw [e]; exact h1
          · exact a y e
        · intro y hy
          rcases List.mem_cons.1 hy with e | e
          · rw [e]; exact h2
          · exact fun hp => b y e (List.mem_append_left _ hp)
        · rw [List.nodup_cons]
          exact ⟨fun hx => b x hx (by simp), c⟩
    · cases h
theorem checkP_zero {l : List Int} (h : checkP l = 0) : 1 ≤ l.length ∧ l.length ≤ 20 ∧ (∀ x ∈ l, 0 ≤ x ∧ x < l.length) ∧ l.Nodup := by
  unfold checkP at h
  split at h
  · rename_i h1
    obtain ⟨a, -, c⟩ := chkS_zero h
    exact ⟨h1.1, h1.2, a, c⟩
  · cases h
end Go.Proofs.YtmlhekfkniibmaaDoor

/- Sorting a part of a row: what is asked of lists. -/
namespace Go.Proofs.YtmlhekfkniibmaaDoor.Ord
open Go Go.Proofs.YtmlhekfkniibmaaDoor.AX Go.Proofs.YtmlhekfkniibmaaDoor
variable {sb : Bool}
theorem set_ne {H : AH} {i j : Nat} {o : AObj} (h : i ≠ j) : (H.set i o)[j]? = H[j]? := List.getElem?_set_ne h
/-- A row that begins with these numbers. -/
def Rw (r ver : Nat) (H : AH) (c : List Int) : Prop := ∃ s tl, H[r]? = some (.row (c.map (.int .i64) ++ tl) ver s false)
theorem Rw.ld {r ver i : Nat} {H : AH} {c : List Int} (h : Rw r ver H c) (hi : i < c.length) : AX.ld H r i ver = some (.int .i64 (g c i)) := by
  obtain ⟨s, tl, h⟩ := h
  rw [ld_row h, g_lt hi, List.getElem?_append_left (by simpa using hi)]; simp [hi]
theorem Rw.ext {r ver : Nat} {H H' : AH} {c : List Int} (h : Rw r ver H c) (hE : Ext H H') : Rw r ver H' c := by
  obtain ⟨s, tl, h⟩ := h
  exact ⟨s, tl, hE.row h⟩
theorem Rw.swap {r ver i j : Nat} {H : AH} {c : List Int} (h : Rw r ver H c) (hi : i < c.length) (hj : j < c.length) :
    ∃ H1 H2, storeV Tryd.prog 3 H (.ptr r i ver) (.int .i64 (g c j)) = some (none, H1) ∧ storeV Tryd.prog 3 H1 (.ptr r j ver) (.int .i64 (g c i)) = some (none, H2) ∧ Rw r ver H2 (sw c i j) ∧ KeepX r H H2 := by
  obtain ⟨s, tl, h⟩ := h
  have h1 := store_row (P := Tryd.prog) (u := 3) (p := i) sc3 (x := .int .i64 (g c j)) (y := .int .i64 c[i]) rfl h (by rw [List.getElem?_append_left (by simpa using hi)]; simp [hi])
  have e1 : (c.map (AV.int .i64) ++ tl).set i (.int .i64 (g c j)) = (c.set i (g c j)).map (.int .i64) ++ tl := by rw [List.set_append_left _ _ (by simpa using hi), List.map_set]
  rw [e1] at h1
  have hr1 := get_set (o' := .row ((c.set i (g c j)).map (.int .i64) ++ tl) ver (min s i) false) h
  have h2 := store_row (P := Tryd.prog) (u := 3) (p := j) sc3 (x := .int .i64 (g c i)) (y := .int .i64 ((c.set i (g c j))[j]'(by simpa using hj))) rfl hr1 (by rw [List.getElem?_append_left (by simpa using hj), List.getElem?_map, List.getElem?_eq_getElem (by simpa using hj)]; rfl)
  have e2 : ((c.set i (g c j)).map (AV.int .i64) ++ tl).set j (.int .i64 (g c i)) = (sw c i j).map (.int .i64) ++ tl := by rw [List.set_append_left _ _ (by simpa using hj), ← List.map_set]; rfl
  rw [e2] at h2
  exact ⟨_, _, h1, h2, ⟨_, tl, get_set hr1⟩, ((KeepX.refl r H).set _).set _⟩
/-- What a comparison says. -/
def cmpS (a b : Int) : Int := if a < b then -1 else if b < a then 1 else 0
theorem cmpS_neg {a b : Int} : cmpS a b < 0 ↔ a < b := by unfold cmpS; split <;> (try split) <;> omega
/-- Sorted between a and b. -/
def Srt (κ : Int → Int) (a b : Nat) (c : List Int) : Prop := ∀ p q, a ≤ p → p < q → q < b → κ (g c p) ≤ κ (g c q)
def All (D : Int → Prop) (c : List Int) : Prop := ∀ i, i < c.length → D (g c i)
theorem All.perm {D : Int → Prop} {c m : List Int} (h : All D c) (hp : m.Perm c) : All D m := by
  intro i hi
  have : m[i] ∈ c := hp.mem_iff.1 (by simp)
  obtain ⟨j, hj, e⟩ := List.mem_iff_getElem.1 this
  rw [g_lt hi, ← e, ← g_lt hj]; exact h j hj
/-- What stands while a pivot is chosen: the row, and how often two were out of order. -/
structure Piv (r ver sp : Nat) (B : AH) (c : List Int) (k : Nat) (H : AH) : Prop where
  keep : KeepX r B H
  row : Rw r ver H c
  lt : B.length ≤ sp
  ne : r ≠ sp
  cnt : ∃ s st : Nat, s ≤ k ∧ H[sp]? = some (.row [.int .i64 s] 0 st false)
theorem Piv.mono {r ver sp k k' : Nat} {B H : AH} {c : List Int} (h : Piv r ver sp B c k H) (hk : k ≤ k') : Piv r ver sp B c k' H :=
  ⟨h.keep, h.row, h.lt, h.ne, let ⟨s, st, h1, h2⟩ := h.cnt; ⟨s, st, by omega, h2⟩⟩
theorem part_fin {D κ : Int → Int} {a b j pv : Nat} {c d : List Int} {LOW : Int → Prop} (hLd : ∀ x, LOW x ↔ κ x < κ (g c pv)) (hb : b ≤ d.length) (haj : a ≤ j) (hjb : j < b) (hS : Shuf a b c d) (hpiv : g d a = g c pv) (hLo : ∀ k, a < k → k < j + 1 → LOW (g d k)) (hHi : ∀ k, j < k → k < b → ¬ LOW (g d k)) :
    Shuf a b c (sw d j a) ∧ (∀ k, a ≤ k → k < j → κ (g (sw d j a) k) ≤ κ (g (sw d j a) j)) ∧ (∀ k, j < k → k < b → κ (g (sw d j a) j) ≤ κ (g (sw d j a) k)) := by
  have w0 := sw_i (c := d) (i := j) (j := a) (by omega) (by omega)
  have w1 := sw_j (c := d) (i := j) (j := a) (by omega) (by omega)
  have w2 := fun (k : Nat) (k1 : k ≠ j) (k2 : k ≠ a) => sw_o (c := d) (i := j) (j := a) (by omega) (by omega) k1 k2
  refine ⟨hS.trans (.swap hb (by omega) (by omega)), fun k k1 k2 => ?_, fun k k1 k2 => ?_⟩
  · rw [w0, hpiv]
    by_cases k3 : k = a
    · rw [k3, w1]; exact Int.le_of_lt ((hLd _).1 (hLo j (by omega) (by omega)))
    · rw [w2 k (by omega) k3]; exact Int.le_of_lt ((hLd _).1 (hLo k (by omega) (by omega)))
  · rw [w0, hpiv, w2 k (by omega) (by omega)]
    exact Int.not_lt.1 fun h => hHi k k1 k2 ((hLd _).2 h)
/-- What lies below place i is not greater. -/
def Hp (κ : Int → Int) (f hi : Nat) (d : List Int) (i : Nat) : Prop := ∀ c, c = 2 * i + 1 ∨ c = 2 * i + 2 → c < hi → κ (g d (f + c)) ≤ κ (g d (f + i))
theorem heap_max {κ : Int → Int} {f hi : Nat} {d : List Int} (h : ∀ i, Hp κ f hi d i) : ∀ p, p < hi → κ (g d (f + p)) ≤ κ (g d (f + 0)) := by
  intro p
  induction p using Nat.strongRecOn with
  | _ p ih =>
    intro hp
    by_cases h0 : p = 0
    · subst h0; exact Int.le_refl _
    · have h1 := h ((p - 1) / 2) p (by omega) hp
      have h2 := ih ((p - 1) / 2) (by omega) (by omega)
      omega
def lenN (n : Nat) : Nat := if n < 1 then 0 else if n < 2 then 1 else if n < 4 then 2 else if n < 8 then 3 else if n < 16 then 4 else if n < 32 then 5 else if n < 64 then 6 else 7
theorem len_all : (List.range 128).all (fun s => match callN (runZ cx 300) 57 [.int .u64 (.ofNat s)] [] with | some (.int .i64 m, []) => ieq m (.ofNat (lenN s)) | _ => false) = true := by kernel_rfl
theorem Len_ac (n : Nat) (H : AH) (Q : AV → AH → Prop) (hn : n < 128) (h : Q (.int .i64 (lenN n)) H) : AC Tryd.prog 57 [.int .u64 n] H Q := by
  have := List.all_eq_true.1 len_all n (List.mem_range.2 hn)
  split at this
  · rename_i m hr
    rw [ieq_eq, beq_iff_eq] at this
    subst this
    exact AC_kernZ cx_ok 300 hr (.cons (.int _ _) .nil) (.int _ _) h
  · cases this
theorem pow_len {n : Nat} (h1 : 1 ≤ n) (h2 : n < 128) : 2 ^ lenN n ≤ 2 * n ∧ 1 ≤ 2 ^ lenN n ∧ lenN n ≤ 7 := by
  unfold lenN
  repeat' split
  all_goals omega
@[simp] theorem cvA (n : Nat) (hn : n ≤ 1000000) : aConv Tryd.prog 3 85 (.int .i64 n) = some (.int .u64 n) := by
  rw [cv_int (by kernel_rfl) (by kernel_rfl) n, wrap_u64 (by omega)]
theorem cvB (n : Nat) (hn : n ≤ 1000000) : aConv Tryd.prog 85 3 (.int .u64 n) = some (.int .i64 n) := by
  rw [cv_int (by kernel_rfl) (by kernel_rfl) n, wrap_i64 (by omega)]
theorem cvC (n : Nat) (hn : n ≤ 1000000) : aConv Tryd.prog 3 123 (.int .i64 n) = some (.int .u64 n) := by
  rw [cv_int (by kernel_rfl) (by kernel_rfl) n, wrap_u64 (by omega)]
theorem nextPow_ac (n : Nat) (H : AH) (Q : AV → AH → Prop) (h1 : 1 ≤ n) (hn : n < 128) (h : Q (.int .u64 (2 ^ lenN n : Nat)) H) : AC Tryd.prog 91 [.int .i64 n] H Q := by
  refine L_body 7 Tryd.func91 rfl rfl ?_
  refine L_reg [0] (fun K hK => ?_)
  simp
  apply hK; clear hK K
  have := pow_len h1 hn
  refine L_reg [2] (fun K hK => ?_)
  simp [okFn_low, cvA n (by omega)]
  refine Len_ac n H _ hn ?_
  simp [n_shl64' (lenN n) (by omega)]
  apply hK; clear hK K
  exact L_ret ⟨.inr rfl, _, rfl, by simpa using h⟩
theorem st86 {H : AH} {p s : Nat} {x : Int} (h : H[p]? = some (.row [.int .u64 x] 0 s false)) (z : Int) : storeV Tryd.prog 123 H (.ptr p 0 0) (.int .u64 z) = some (none, H.set p (.row [.int .u64 z] 0 0 false)) := by
  have := store_row (P := Tryd.prog) (u := 123) (p := 0) sc123 (x := .int .u64 z) (y := .int .u64 x) rfl h rfl
  simpa using this
theorem next_ac (p s : Nat) (x : Int) (H : AH) (Q : AV → AH → Prop) (hr : H[p]? = some (.row [.int .u64 x] 0 s false)) (h : ∀ (y : Int) (H' : AH), H'[p]? = some (.row [.int .u64 y] 0 0 false) → KeepX p H H' → Q (.int .u64 y) H') : AC Tryd.prog 92 [.ptr p 0 0] H Q := by
  refine L_body 33 Tryd.func92 rfl rfl ?_
  have e1 : ld H p 0 0 = some (.int .u64 x) := by rw [ld_row hr]; rfl
  refine L_reg [0] (fun K hK => ?_)
  simp
  apply hK; clear hK K
  refine L_regT mixed [0] (by kernel_rfl) (fun K hK => ?_)
  simp [aNil, e1, st86 hr]
  apply hK; clear hK K
  generalize IntKind.u64.wrap _ = y1
  have r1 := get_set (o' := AObj.row [.int .u64 y1] 0 0 false) hr
  have k1 := (KeepX.refl p H).set (AObj.row [.int .u64 y1] 0 0 false)
  generalize H.set p (AObj.row [.int .u64 y1] 0 0 false) = H1 at r1 k1 ⊢
  have e2 : ld H1 p 0 0 = some (.int .u64 y1) := by rw [ld_row r1]; rfl
  refine L_regT mixed [0] (by kernel_rfl) (fun K hK => ?_)
  simp [aNil, e2, st86 r1]
  apply hK; clear hK K
  generalize IntKind.u64.wrap _ = y2
  have r2 := get_set (o' := AObj.row [.int .u64 y2] 0 0 false) r1
  have k2 := k1.set (AObj.row [.int .u64 y2] 0 0 false)
  generalize H1.set p (AObj.row [.int .u64 y2] 0 0 false) = H2 at r2 k2 ⊢
  have e3 : ld H2 p 0 0 = some (.int .u64 y2) := by rw [ld_row r2]; rfl
  refine L_regT mixed [0] (by kernel_rfl) (fun K hK => ?_)
  simp [aNil, e3, st86 r2]
  apply hK; clear hK K
  generalize IntKind.u64.wrap _ = y3
  have r3 := get_set (o' := AObj.row [.int .u64 y3] 0 0 false) r2
  have k3 := k2.set (AObj.row [.int .u64 y3] 0 0 false)
  generalize H2.set p (AObj.row [.int .u64 y3] 0 0 false) = H3 at r3 k3 ⊢
  have e4 : ld H3 p 0 0 = some (.int .u64 y3) := by rw [ld_row r3]; rfl
  refine L_reg [2] (fun K hK => ?_)
  simp [aNil, e4]
  apply hK; clear hK K
  exact L_ret ⟨.inr rfl, _, rfl, h _ _ r3 k3⟩
theorem and_low {P : Program} {t : TypeId} {l : Bool} (y : Int) (m : Nat) (_hm : m ≤ 1000000) : ∃ z : Nat, z ≤ m ∧ binV P .and t l (.int .u64 y) (.int .u64 (m : Int)) = some (.int .u64 (z : Nat)) := by
  refine ⟨(BitVec.ofInt 64 y &&& BitVec.ofInt 64 (m : Int)).toNat, ?_, ?_⟩
  · rw [BitVec.toNat_and]
    refine Nat.le_trans Nat.and_le_right ?_
    rw [ofInt_nat, BitVec.toNat_ofNat]
    exact Nat.mod_le _ _
  · rw [b_and]
    congr 2
    exact wrapN64 (BitVec.isLt _)
theorem Srt.more {κ : Int → Int} {a i : Nat} {d : List Int} (h : Srt κ a (i + 1) d) (hi : a ≤ i) (h1 : κ (g d i) ≤ κ (g d (i + 1))) : Srt κ a (i + 2) d := by
  intro p q h2 h3 h4
  by_cases e : q = i + 1
  · subst e
    by_cases e2 : p = i
    · subst e2; exact h1
    · exact Int.le_trans (h p i h2 (by omega) (by omega)) h1
  · exact h p q h2 h3 (by omega)
/-- Sorted, but for what lies between a' and b'. -/
def OrdEx (κ : Int → Int) (a b a' b' : Nat) (d : List Int) : Prop := ∀ p q, a ≤ p → p < q → q < b → ¬ (a' ≤ p ∧ q < b') → κ (g d p) ≤ κ (g d q)
def Pre (κ : Int → Int) (a b : Nat) (d : List Int) : Prop := 0 < a → ∀ k, a ≤ k → k < b → κ (g d (a - 1)) ≤ κ (g d k)
theorem OrdEx.mix {κ : Int → Int} {a b a' b' : Nat} {d m : List Int} (h : OrdEx κ a b a' b' d) (hS : Shuf a' b' d m) (hb : b' ≤ d.length) (haa : a ≤ a') (hbb : b' ≤ b) : OrdEx κ a b a' b' m := by
  intro p q h1 h2 h3 h4
  by_cases hp : a' ≤ p ∧ p < b'
  · have hq : b' ≤ q := by omega
    rw [hS.2 q (by omega)]
    exact hS.all hb (p := fun x => κ x ≤ κ (g d q)) (fun k k1 k2 => h k q (by omega) (by omega) h3 (by omega)) p hp.1 hp.2
  · rw [hS.2 p (by omega)]
    by_cases hq : a' ≤ q ∧ q < b'
    · exact hS.all hb (p := fun x => κ (g d p) ≤ κ x) (fun k k1 k2 => h p k h1 (by omega) (by omega) (by omega)) q hq.1 hq.2
    · rw [hS.2 q (by omega)]
      exact h p q h1 h2 h3 h4
theorem Pre.mix {κ : Int → Int} {a b : Nat} {d m : List Int} (h : Pre κ a b d) (hS : Shuf a b d m) (hb : b ≤ d.length) : Pre κ a b m := by
  intro h0 k k1 k2
  rw [hS.2 (a - 1) (by omega)]
  exact hS.all hb (p := fun x => κ (g d (a - 1)) ≤ κ x) (fun k k1 k2 => h h0 k k1 k2) k k1 k2
theorem OrdEx.srt {κ : Int → Int} {a b a' b' : Nat} {m : List Int} (h : OrdEx κ a b a' b' m) (hs : Srt κ a' b' m) : Srt κ a b m := by
  intro p q h1 h2 h3
  by_cases e : a' ≤ p ∧ q < b'
  · exact hs p q e.1 h2 e.2
  · exact h p q h1 h2 h3 e
end Go.Proofs.YtmlhekfkniibmaaDoor.Ord

/- Sorting numbers (Sort1). -/
namespace Go.Proofs.YtmlhekfkniibmaaDoor.Ord
open Go Go.Proofs.YtmlhekfkniibmaaDoor.AX Go.Proofs.YtmlhekfkniibmaaDoor
variable {sb : Bool}

/-- What Less says of two numbers, by κ, as long as rows other than r stay. -/
def CmpO (D : Int → Prop) (κ : Int → Int) (r : Nat) (H : AH) : Prop :=
  True ∧ ∀ H', KeepX r H H' → ∀ x y, D x → D y → ∀ Q : AV → AH → Prop, Q (.bool (decide (cmpS (κ x) (κ y) < 0))) H' → AC Tryd.prog 76 [.int .i64 x, .int .i64 y] H' Q
theorem CmpO.keep {D : Int → Prop} {κ : Int → Int} {r : Nat} {H H1 : AH} (h : CmpO D κ r H) (hK : KeepX r H H1) : CmpO D κ r H1 := ⟨h.1, fun H' h1 => h.2 H' (hK.trans h1)⟩
set_option maxRecDepth 100000 in
theorem insertion_ac (D : Int → Prop) (κ : Int → Int) (r ver a b : Nat) (c : List Int) (H : AH) (Q : AV → AH → Prop) (hC : CmpO D κ r H) (hr : Rw r ver H c) (hD : All D c) (hl : c.length ≤ 1000000) (hab : a ≤ b) (hb : b ≤ c.length)
    (h : ∀ (H' : AH) (m : List Int), Shuf a b c m → Srt κ a b m → Rw r ver H' m → KeepX r H H' → Q (.tuple []) H') : AC Tryd.prog 70 [SV sb r 0 c.length ver, .int .i64 a, .int .i64 b] H Q := by
  refine L_body 49 Tryd.func70 rfl rfl ?_
  generalize hn : c.length = n at *
  refine L_reg [0, 1, 2, 6] (fun K hK => ?_)
  simp [wrap_i64 (a := (a : Int) + 1) (by omega)]
  apply hK; clear hK K
  refine L_block (L_loopV [6] (fun k vs H' => ∃ (i : Nat) (d : List Int), k = n - i ∧ a + 1 ≤ i ∧ i ≤ max (a + 1) b ∧ Shuf a b c d ∧ Srt κ a i d ∧ vs = [.int .i64 i] ∧ Rw r ver H' d ∧ KeepX r H H') _ [.int .i64 (a + 1 : Nat)] rfl ⟨a + 1, c, rfl, by omega, by omega, .refl _ _ _, fun p q h1 h2 h3 => by omega, rfl, hr, .refl r H⟩ ?_)
  rintro k _ H1 ⟨i, d, rfl, hi1, hi2, hS, ho, rfl, hrow, hK⟩
  refine L_reg [0, 1, 2, 6, 12] (fun K hK => ?_)
  simp
  apply hK; clear hK K
  refine L_dec (i < b) (by simp) (fun hlt => ?_) (fun hge => L_exit ?_)
  · refine L_block ?_
    refine L_reg [0, 1, 2, 6, 7] (fun K hK => ?_)
    simp
    apply hK; clear hK K
    refine L_block (L_loopV [7] (fun k vs H' => ∃ (j : Nat) (d : List Int), k = j ∧ a ≤ j ∧ j ≤ i ∧ Shuf a b c d ∧ (∀ p q, a ≤ p → p < q → q ≤ i → q ≠ j → κ (g d p) ≤ κ (g d q)) ∧ vs = [.int .i64 j] ∧ Rw r ver H' d ∧ KeepX r H H') _ [.int .i64 i] rfl ⟨i, d, rfl, by omega, by omega, hS, fun p q h1 h2 h3 h4 => ho p q h1 h2 (by omega), rfl, hrow, hK⟩ ?_)
    clear hS ho hrow hK d H1
    rintro k _ H1 ⟨j, d, rfl, haj, hj, hS, ho, rfl, hrow, hK⟩
    have hdl : d.length = n := by rw [hS.len]; exact hn
    have hdD := hD.perm hS.1
    by_cases hk : a < k
    · obtain ⟨j, rfl⟩ : ∃ j, k = j + 1 := ⟨k - 1, by omega⟩
      have hx := hrow.ld (i := j + 1) (by omega)
      have hy := hrow.ld (i := j) (by omega)
      have hw : IntKind.i64.wrap (j : Int) = (j : Int) := wrap_i64 (by omega)
      have hi1' : ((j : Int) + 1).toNat = j + 1 := by omega
      have g1 : (0 : Int) ≤ (j : Int) + 1 := by omega
      have g2 : (j : Int) + 1 < (n : Int) := by omega
      have g3 : j < n := by omega
      have g4 : (a : Int) < (j : Int) + 1 := by omega
      have hx0 := hdD (j + 1) (by omega)
      have hy0 := hdD j (by omega)
      have hCk := hC.keep hK
      refine L_regT mixed [0, 1, 2, 6, 7, 30] (by kernel_rfl) (fun K hK => ?_)
      simp [okFn_low, hw, hi1', g1, g2, g3, g4, hx, hy]
      refine exC_mk (fun Q hQ => hCk.2 H1 (.refl _ _) _ _ hx0 hy0 Q hQ) ?_
      simp [pickV]
      apply hK; clear hK K
      by_cases hyx : κ (g d (j + 1)) < κ (g d j)
      · have hneg := cmpS_neg.2 hyx
        refine L_true (by simp [hneg]) ?_
        obtain ⟨H2, H3, e1, e2, e3, e4⟩ := hrow.swap (i := j + 1) (j := j) (by omega) (by omega)
        refine L_block ?_
        refine L_regT mixed [0, 1, 2, 6, 7] (by kernel_rfl) (fun K hK => ?_)
        simp [hw, hi1', g1, g2, g3, hx, hy, e1, e2]
        apply hK; clear hK K
        refine L_reg [0, 1, 2, 6, 7] (fun K hK => ?_)
        simp [hw]
        apply hK; clear hK K
        refine ⟨j, [.int .i64 (j : Nat)], by omega, by simp, j, _, rfl, by omega, by omega, hS.trans (.swap (by omega) (by omega) (by omega)), fun p q h1 h2 h3 h4 => ?_, rfl, e3, hK.trans e4⟩
        have w0 := sw_i (c := d) (i := j + 1) (j := j) (by omega) (by omega)
        have w1 := sw_j (c := d) (i := j + 1) (j := j) (by omega) (by omega)
        have w2 := fun (k : Nat) (k1 : k ≠ j + 1) (k2 : k ≠ j) => sw_o (c := d) (i := j + 1) (j := j) (by omega) (by omega) k1 k2
        by_cases q1 : q = j + 1
        · subst q1
          by_cases p1 : p = j
          · subst p1; rw [w0, w1]; omega
          · rw [w0, w2 p (by omega) p1]
            exact ho p j h1 (by omega) (by omega) (by omega)
        · rw [w2 q q1 h4]
          by_cases p1 : p = j
          · subst p1; rw [w1]
            exact ho (p + 1) q (by omega) (by omega) h3 (by omega)
          · by_cases p2 : p = j + 1
            · subst p2; rw [w0]
              exact ho j q (by omega) (by omega) h3 (by omega)
            · rw [w2 p p2 p1]
              exact ho p q h1 h2 h3 (by omega)
      · have hneg : ¬ cmpS (κ (g d (j + 1))) (κ (g d j)) < 0 := fun h => hyx (cmpS_neg.1 h)
        refine L_false (by simp; omega) (L_exit ?_)
        refine L_reg [0, 1, 2, 6] (fun K hK => ?_)
        simp [wrap_i64 (a := (i : Int) + 1) (by omega)]
        apply hK; clear hK K
        refine ⟨n - (i + 1), [.int .i64 (i + 1 : Nat)], by omega, by simp, i + 1, _, rfl, by omega, by omega, hS, fun p q h1 h2 h3 => ?_, rfl, hrow, hK⟩
        by_cases q1 : q = j + 1
        · subst q1
          by_cases p1 : p = j
          · subst p1; omega
          · have := ho p j h1 (by omega) (by omega) (by omega)
            omega
        · exact ho p q h1 h2 (by omega) q1
    · have hka : k = a := by omega
      subst hka
      refine L_regT mixed [0, 1, 2, 6, 7, 30] (by kernel_rfl) (fun K hK => ?_)
      simp [pickV]
      apply hK; clear hK K
      refine L_false (by simp) (L_exit ?_)
      refine L_reg [0, 1, 2, 6] (fun K hK => ?_)
      simp [wrap_i64 (a := (i : Int) + 1) (by omega)]
      apply hK; clear hK K
      exact ⟨n - (i + 1), [.int .i64 (i + 1 : Nat)], by omega, by simp, i + 1, _, rfl, by omega, by omega, hS, fun p q h1 h2 h3 => ho p q h1 h2 (by omega) (by omega), rfl, hrow, hK⟩
  · have hbi : b ≤ i := by omega
    refine ⟨.inl rfl, _, rfl, h H1 d hS (fun p q h1 h2 h3 => ho p q h1 h2 (by omega)) hrow hK⟩
end Go.Proofs.YtmlhekfkniibmaaDoor.Ord

/- Sorting numbers (Sort2). -/
namespace Go.Proofs.YtmlhekfkniibmaaDoor.Ord
open Go Go.Proofs.YtmlhekfkniibmaaDoor.AX Go.Proofs.YtmlhekfkniibmaaDoor
variable {sb : Bool}

set_option maxRecDepth 100000 in
theorem reverse_ac (r ver a b : Nat) (c : List Int) (H : AH) (Q : AV → AH → Prop) (hr : Rw r ver H c) (hl : c.length ≤ 1000000) (hab : a < b) (hb : b ≤ c.length)
    (h : ∀ (H' : AH) (m : List Int), Shuf a b c m → Rw r ver H' m → KeepX r H H' → Q (.tuple []) H') : AC Tryd.prog 74 [SV sb r 0 c.length ver, .int .i64 a, .int .i64 b] H Q := by
  obtain ⟨b, rfl⟩ : ∃ b', b = b' + 1 := ⟨b - 1, by omega⟩
  refine L_body 32 Tryd.func74 rfl rfl ?_
  refine L_reg [0, 2, 6] (fun K hK => ?_)
  simp
  apply hK; clear hK K
  have hw : IntKind.i64.wrap (b : Int) = (b : Int) := wrap_i64 (by omega)
  refine L_reg [0, 6, 7] (fun K hK => ?_)
  simp [hw]
  apply hK; clear hK K
  generalize hn : c.length = n at *
  refine L_block (L_loopV [6, 7] (fun k vs H' => ∃ (i j : Nat) (d : List Int), k = j + 1 - i ∧ a ≤ i ∧ j ≤ b ∧ Shuf a (b + 1) c d ∧ vs = [.int .i64 i, .int .i64 j] ∧ Rw r ver H' d ∧ KeepX r H H') _ [.int .i64 a, .int .i64 b] rfl ⟨a, b, c, rfl, by omega, by omega, .refl _ _ _, rfl, hr, .refl r H⟩ ?_)
  rintro k _ H1 ⟨i, j, d, rfl, hi, hj, hS, rfl, hrow, hK⟩
  refine L_reg [0, 6, 7, 13] (fun K hK => ?_)
  simp
  apply hK; clear hK K
  have hdl : d.length = n := by rw [hS.len]; exact hn
  refine L_dec (i < j) (by simp) (fun hlt => ?_) (fun hge => L_exit ?_)
  · obtain ⟨j, rfl⟩ : ∃ j', j = j' + 1 := ⟨j - 1, by omega⟩
    have hx := hrow.ld (i := i) (by omega)
    have hy := hrow.ld (i := j + 1) (by omega)
    obtain ⟨H2, H3, e1, e2, e3, e4⟩ := hrow.swap (i := i) (j := j + 1) (by omega) (by omega)
    have g1 : i < n := by omega
    have g2 : (j : Int) + 1 < n := by omega
    have g3 : (0 : Int) ≤ (j : Int) + 1 := by omega
    have g4 : ((j : Int) + 1).toNat = j + 1 := by omega
    refine L_block ?_
    refine L_regT mixed [0, 6, 7] (by kernel_rfl) (fun K hK => ?_)
    simp [g1, g2, g3, g4, hx, hy, e1, e2]
    apply hK; clear hK K
    refine L_reg [0, 6, 7] (fun K hK => ?_)
    simp [wrap_i64 (a := (i : Int) + 1) (by omega)]
    apply hK; clear hK K
    refine L_reg [0, 6, 7] (fun K hK => ?_)
    simp [wrap_i64 (a := (j : Int)) (by omega)]
    apply hK; clear hK K
    exact ⟨j + 1 - (i + 1), [.int .i64 (i + 1 : Nat), .int .i64 j], by omega, by simp, i + 1, j, _, rfl, by omega, by omega, hS.trans (.swap (by omega) (by omega) (by omega)), rfl, e3, hK.trans e4⟩
  · exact ⟨.inl rfl, _, rfl, h H1 d hS hrow hK⟩
set_option maxRecDepth 100000 in
theorem order2_ac (D : Int → Prop) (κ : Int → Int) (r ver sp a b k : Nat) (c : List Int) (B H : AH) (Q : AV → AH → Prop) (hC : CmpO D κ r B) (hP : Piv r ver sp B c k H) (hk : k ≤ 1000) (hD : All D c) (_hl : c.length ≤ 1000000) (ha : a < c.length) (hb : b < c.length)
    (h : ∀ (H' : AH) (x y : Nat), (x = a ∧ y = b) ∨ (x = b ∧ y = a) → Piv r ver sp B c (k + 1) H' → Q (.tuple [.int .i64 x, .int .i64 y]) H') : AC Tryd.prog 101 [SV sb r 0 c.length ver, .int .i64 a, .int .i64 b, .ptr sp 0 0] H Q := by
  refine L_body 28 Tryd.func101 rfl rfl ?_
  refine L_reg [0, 1, 2, 3] (fun K hK => ?_)
  simp
  apply hK; clear hK K
  have hx := hP.row.ld ha
  have hy := hP.row.ld hb
  have hCk := hC.keep hP.keep
  refine L_regT mixed [1, 2, 3, 18] (by kernel_rfl) (fun K hK => ?_)
  simp [okFn_low, ha, hb, hx, hy]
  refine exC_mk (fun Q hQ => hCk.2 H (.refl _ _) _ _ (hD b hb) (hD a ha) Q hQ) ?_
  simp
  apply hK; clear hK K
  obtain ⟨s, st, hs, hrow⟩ := hP.cnt
  refine L_dec (cmpS (κ (g c b)) (κ (g c a)) < 0) (by simp) (fun hlt => ?_) (fun hge => ?_)
  · have e1 : ld H sp 0 0 = some (.int .i64 s) := by rw [ld_row hrow]; rfl
    have e2 := store_row (P := Tryd.prog) (u := 3) (p := 0) sc3 (x := .int .i64 ((s : Int) + 1)) (y := .int .i64 s) rfl hrow rfl
    refine L_reg [1, 2] (fun K hK => ?_)
    simp [aNil, e1, wrap_i64 (a := (s : Int) + 1) (by omega), e2]
    apply hK; clear hK K
    refine L_reg [8, 9] (fun K hK => ?_)
    simp
    apply hK; clear hK K
    exact L_ret ⟨.inr rfl, _, rfl, h _ b a (.inr ⟨rfl, rfl⟩) ⟨⟨by simpa using hP.keep.1, fun j h1 h2 => by rw [set_ne (by have := hP.lt; omega)]; exact hP.keep.2 j h1 h2⟩, (let ⟨s', h'⟩ := hP.row; ⟨s', by rw [set_ne (Ne.symm hP.ne)]; exact h'⟩), hP.lt, hP.ne, s + 1, _, by omega, by rw [get_set hrow]; rfl⟩⟩
  · refine L_reg [8, 9] (fun K hK => ?_)
    simp
    apply hK; clear hK K
    exact L_ret ⟨.inr rfl, _, rfl, h _ a b (.inl ⟨rfl, rfl⟩) (hP.mono (by omega))⟩
set_option maxRecDepth 100000 in
theorem median_ac (D : Int → Prop) (κ : Int → Int) (r ver sp a b d k : Nat) (c : List Int) (B H : AH) (Q : AV → AH → Prop) (hC : CmpO D κ r B) (hP : Piv r ver sp B c k H) (hk : k ≤ 900) (hD : All D c) (hl : c.length ≤ 1000000) (ha : a < c.length) (hb : b < c.length) (hd : d < c.length)
    (h : ∀ (H' : AH) (x : Nat), x = a ∨ x = b ∨ x = d → Piv r ver sp B c (k + 3) H' → Q (.int .i64 x) H') : AC Tryd.prog 94 [SV sb r 0 c.length ver, .int .i64 a, .int .i64 b, .int .i64 d, .ptr sp 0 0] H Q := by
  refine L_body 36 Tryd.func94 rfl rfl ?_
  refine L_reg [0, 1, 2, 3, 4] (fun K hK => ?_)
  simp
  apply hK; clear hK K
  refine L_reg [0, 1, 2, 3, 4] (fun K hK => ?_)
  simp [okFn_low]
  refine order2_ac D κ r ver sp a b k c B H _ hC hP (by omega) hD hl ha hb (fun H1 x y hxy hP1 => ?_)
  simp
  apply hK; clear hK K
  refine L_reg [0, 1, 2, 4] (fun K hK => ?_)
  simp [okFn_low]
  refine order2_ac D κ r ver sp y d (k + 1) c B H1 _ hC hP1 (by omega) hD hl (by omega) hd (fun H2 x2 y2 hxy2 hP2 => ?_)
  simp
  apply hK; clear hK K
  refine L_reg [2] (fun K hK => ?_)
  simp [okFn_low]
  refine order2_ac D κ r ver sp x x2 (k + 2) c B H2 _ hC hP2 (by omega) hD hl (by omega) (by omega) (fun H3 x3 y3 hxy3 hP3 => ?_)
  simp
  apply hK; clear hK K
  refine L_reg [10] (fun K hK => ?_)
  simp
  apply hK; clear hK K
  exact L_ret ⟨.inr rfl, _, rfl, h _ y3 (by omega) hP3⟩
set_option maxRecDepth 100000 in
theorem medianAdj_ac (D : Int → Prop) (κ : Int → Int) (r ver sp a k : Nat) (c : List Int) (B H : AH) (Q : AV → AH → Prop) (hC : CmpO D κ r B) (hP : Piv r ver sp B c k H) (hk : k ≤ 900) (hD : All D c) (hl : c.length ≤ 1000000) (ha : 1 ≤ a) (hb : a + 1 < c.length)
    (h : ∀ (H' : AH) (x : Nat), a ≤ x + 1 ∧ x ≤ a + 1 → Piv r ver sp B c (k + 3) H' → Q (.int .i64 x) H') : AC Tryd.prog 93 [SV sb r 0 c.length ver, .int .i64 a, .ptr sp 0 0] H Q := by
  obtain ⟨a, rfl⟩ : ∃ b', a = b' + 1 := ⟨a - 1, by omega⟩
  refine L_body 15 Tryd.func93 rfl rfl ?_
  refine L_reg [0, 1, 2] (fun K hK => ?_)
  simp
  apply hK; clear hK K
  refine L_reg [6] (fun K hK => ?_)
  simp [okFn_low, wrap_i64 (a := (a : Int)) (by omega), wrap_i64 (a := (a : Int) + 1 + 1) (by omega)]
  refine median_ac D κ r ver sp a (a + 1) (a + 1 + 1) k c B H _ hC hP hk hD hl (by omega) (by omega) (by omega) (fun H1 x hx hP1 => ?_)
  simp
  apply hK; clear hK K
  exact L_ret ⟨.inr rfl, _, rfl, h _ x (by omega) hP1⟩
end Go.Proofs.YtmlhekfkniibmaaDoor.Ord

/- Sorting numbers (Sort3). -/
namespace Go.Proofs.YtmlhekfkniibmaaDoor.Ord
open Go Go.Proofs.YtmlhekfkniibmaaDoor.AX Go.Proofs.YtmlhekfkniibmaaDoor
variable {sb : Bool}

set_option maxRecDepth 100000 in
theorem pivot_ac (D : Int → Prop) (κ : Int → Int) (r ver a l : Nat) (c : List Int) (H : AH) (Q : AV → AH → Prop) (hC : CmpO D κ r H) (hr : Rw r ver H c) (hrl : r < H.length) (hD : All D c) (hlen : c.length ≤ 1000000) (hl : 12 < l) (hb : a + l ≤ c.length)
    (h : ∀ (H' : AH) (x : Nat) (hint : Int), a ≤ x ∧ x < a + l → KeepX r H H' → Rw r ver H' c → Q (.tuple [.int .i64 x, .int .i64 hint]) H') : AC Tryd.prog 73 [SV sb r 0 c.length ver, .int .i64 a, .int .i64 (a + l : Nat)] H Q := by
  refine L_body 57 Tryd.func73 rfl rfl ?_
  refine L_reg [0, 1, 2] (fun K hK => ?_)
  simp
  apply hK; clear hK K
  have hq : ((l : Int)).tdiv 4 = ((l / 4 : Nat) : Int) := by rw [Int.tdiv_eq_ediv_of_nonneg (by omega)]; rfl
  obtain ⟨q, hq0⟩ : ∃ q, q = l / 4 := ⟨_, rfl⟩
  rw [← hq0] at hq
  obtain ⟨i, hi⟩ : ∃ i : Nat, (a : Int) + q = i := ⟨a + q, by omega⟩
  obtain ⟨j, hj⟩ : ∃ i : Nat, (a : Int) + (q : Int) * 2 = i := ⟨a + q * 2, by omega⟩
  obtain ⟨k, hk⟩ : ∃ i : Nat, (a : Int) + (q : Int) * 3 = i := ⟨a + q * 3, by omega⟩
  refine L_reg [0, 1, 8] (fun K hK => ?_)
  simp [wrap_i64 (a := (l : Int)) (by omega), show ((a : Int) + l - a) = l by omega]
  apply hK; clear hK K
  refine L_reg [0, 1, 8, 9] (fun K hK => ?_)
  simp [alloc_z zt3]
  apply hK; clear hK K
  have hP : Piv r ver H.length H c 0 (H ++ [.row [.int .i64 0] 0 0 false]) := ⟨(KeepX.refl r H).ext (.push _ _), hr.ext (.push _ _), Nat.le_refl _, by omega, 0, 0, Nat.le_refl _, by simp⟩
  generalize H ++ [AObj.row [.int .i64 0] 0 0 false] = H0 at hP ⊢
  generalize hsp : H.length = sp at hP ⊢
  refine L_reg [0, 1, 8, 9, 10] (fun K hK => ?_)
  simp [hq, wrap_i64 (a := (q : Int)) (by omega), hi, wrap_i64 (a := (i : Int)) (by omega)]
  apply hK; clear hK K
  refine L_reg [0, 1, 8, 9, 10, 11] (fun K hK => ?_)
  simp [hq, wrap_i64 (a := (q : Int)) (by omega), wrap_i64 (a := (q : Int) * 2) (by omega), hj, wrap_i64 (a := (j : Int)) (by omega)]
  apply hK; clear hK K
  refine L_reg [0, 8, 9, 10, 11, 12] (fun K hK => ?_)
  simp [hq, wrap_i64 (a := (q : Int)) (by omega), wrap_i64 (a := (q : Int) * 3) (by omega), hk, wrap_i64 (a := (k : Int)) (by omega)]
  apply hK; clear hK K
  refine L_reg [0, 8, 9, 10, 11, 12, 32] (fun K hK => ?_)
  simp
  apply hK; clear hK K
  refine L_true (by simp; omega) ?_
  refine L_reg [0, 9, 10, 11, 12, 34] (fun K hK => ?_)
  simp
  apply hK; clear hK K
  refine L_dec (50 ≤ (l : Int)) (by simp) (fun h50 => ?_) (fun h50 => ?_)
  · refine L_reg [0, 9, 10, 11, 12] (fun K hK => ?_)
    simp [okFn_low]
    refine medianAdj_ac D κ r ver sp i 0 c H H0 _ hC hP (by omega) hD hlen (by omega) (by omega) (fun H1 x hx hP => ?_)
    simp
    apply hK; clear hK K
    refine L_reg [0, 9, 10, 11, 12] (fun K hK => ?_)
    simp [okFn_low]
    refine medianAdj_ac D κ r ver sp j _ c H H1 _ hC hP (by omega) hD hlen (by omega) (by omega) (fun H2 y hy hP => ?_)
    simp
    apply hK; clear hK K
    refine L_reg [0, 9, 10, 11, 12] (fun K hK => ?_)
    simp [okFn_low]
    refine medianAdj_ac D κ r ver sp k _ c H H2 _ hC hP (by omega) hD hlen (by omega) (by omega) (fun H3 z hz hP => ?_)
    simp
    apply hK; clear hK K
    refine L_reg [9, 11] (fun K hK => ?_)
    simp [okFn_low]
    refine median_ac D κ r ver sp x y z _ c H H3 _ hC hP (by omega) hD hlen (by omega) (by omega) (by omega) (fun H4 w hw hP => ?_)
    simp
    apply hK; clear hK K
    obtain ⟨s, st, hs, hrow⟩ := hP.cnt
    have e1 : ld H4 sp 0 0 = some (.int .i64 s) := by rw [ld_row hrow]; rfl
    refine L_reg [11, 49] (fun K hK => ?_)
    simp [e1]
    apply hK; clear hK K
    refine L_block ?_
    refine L_reg [11, 49, 51] (fun K hK => ?_)
    simp
    apply hK; clear hK K
    refine L_split rfl (fun _ => ?_) (fun _ => ?_)
    · refine L_reg [6, 7] (fun K hK => ?_)
      simp
      apply hK; clear hK K
      exact L_ret ⟨.inr rfl, _, rfl, h _ w 1 (by omega) hP.keep hP.row⟩
    · refine L_reg [11, 54] (fun K hK => ?_)
      simp
      apply hK; clear hK K
      refine L_split rfl (fun _ => ?_) (fun _ => ?_)
      · refine L_reg [6, 7] (fun K hK => ?_)
        simp
        apply hK; clear hK K
        exact L_ret ⟨.inr rfl, _, rfl, h _ w 2 (by omega) hP.keep hP.row⟩
      · refine L_reg [6, 7] (fun K hK => ?_)
        simp
        apply hK; clear hK K
        exact L_ret ⟨.inr rfl, _, rfl, h _ w 0 (by omega) hP.keep hP.row⟩
  · refine L_reg [9, 11] (fun K hK => ?_)
    simp [okFn_low]
    refine median_ac D κ r ver sp i j k _ c H H0 _ hC hP (by omega) hD hlen (by omega) (by omega) (by omega) (fun H4 w hw hP => ?_)
    simp
    apply hK; clear hK K
    obtain ⟨s, st, hs, hrow⟩ := hP.cnt
    have e1 : ld H4 sp 0 0 = some (.int .i64 s) := by rw [ld_row hrow]; rfl
    refine L_reg [11, 49] (fun K hK => ?_)
    simp [e1]
    apply hK; clear hK K
    refine L_block ?_
    refine L_reg [11, 49, 51] (fun K hK => ?_)
    simp
    apply hK; clear hK K
    refine L_split rfl (fun _ => ?_) (fun _ => ?_)
    · refine L_reg [6, 7] (fun K hK => ?_)
      simp
      apply hK; clear hK K
      exact L_ret ⟨.inr rfl, _, rfl, h _ w 1 (by omega) hP.keep hP.row⟩
    · refine L_reg [11, 54] (fun K hK => ?_)
      simp
      apply hK; clear hK K
      refine L_split rfl (fun _ => ?_) (fun _ => ?_)
      · refine L_reg [6, 7] (fun K hK => ?_)
        simp
        apply hK; clear hK K
        exact L_ret ⟨.inr rfl, _, rfl, h _ w 2 (by omega) hP.keep hP.row⟩
      · refine L_reg [6, 7] (fun K hK => ?_)
        simp
        apply hK; clear hK K
        exact L_ret ⟨.inr rfl, _, rfl, h _ w 0 (by omega) hP.keep hP.row⟩
end Go.Proofs.YtmlhekfkniibmaaDoor.Ord

/- Sorting numbers (Part). -/
namespace Go.Proofs.YtmlhekfkniibmaaDoor.Ord
open Go Go.Proofs.YtmlhekfkniibmaaDoor.AX Go.Proofs.YtmlhekfkniibmaaDoor
variable {sb : Bool}

set_option maxRecDepth 100000 in
theorem partEq_ac (D : Int → Prop) (κ : Int → Int) (r ver a b pv : Nat) (c : List Int) (H : AH) (Q : AV → AH → Prop) (hC : CmpO D κ r H) (hr : Rw r ver H c) (hD : All D c) (hl : c.length ≤ 1000000) (hpa : a ≤ pv) (hpb : pv < b) (hb : b ≤ c.length)
    (h : ∀ (H' : AH) (m : List Int) (p : Nat), a < p → p ≤ b → Shuf a b c m → (∀ k, a ≤ k → k < p → κ (g m k) ≤ κ (g c pv)) → (∀ k, p ≤ k → k < b → κ (g c pv) < κ (g m k)) → Rw r ver H' m → KeepX r H H' → Q (.int .i64 p) H') : AC Tryd.prog 77 [SV sb r 0 c.length ver, .int .i64 a, .int .i64 b, .int .i64 pv] H Q := by
  refine L_body 84 Tryd.func77 rfl rfl ?_
  refine L_reg [0, 1, 2, 3] (fun K hK => ?_)
  simp
  apply hK; clear hK K
  generalize hn : c.length = n at *
  obtain ⟨b0, rfl⟩ : ∃ b', b = b' + 1 := ⟨b - 1, by omega⟩
  generalize hb0 : b0 + 1 = b at *
  have hx0 := hr.ld (i := pv) (by omega)
  have hy0 := hr.ld (i := a) (by omega)
  obtain ⟨H2, H3, e1, e2, e3, e4⟩ := hr.swap (i := a) (j := pv) (by omega) (by omega)
  have ga : a < n := by omega
  have gp : pv < n := by omega
  refine L_regT mixed [0, 1, 2] (by kernel_rfl) (fun K hK => ?_)
  simp [ga, gp, hx0, hy0, e1, e2]
  apply hK; clear hK K
  have hbi : (b : Int) - 1 = b0 := by omega
  refine L_reg [0, 1, 9, 10] (fun K hK => ?_)
  simp [wrap_i64 (a := (a : Int) + 1) (by omega), hbi, wrap_i64 (a := (b0 : Int)) (by omega)]
  apply hK; clear hK K
  have hS0 : Shuf a b c (sw c a pv) := .swap (by omega) (by omega) (by omega)
  have hpiv : g (sw c a pv) a = g c pv := sw_i (by omega) (by omega)
  generalize hd0 : sw c a pv = d0 at e3 hS0 hpiv
  clear e1 e2 hx0 hy0
  generalize hLOW : (fun x => ¬ κ (g c pv) < κ x) = LOW
  have hlow : ∀ x, (LOW x → ¬ cmpS (κ (g c pv)) (κ x) < 0) ∧ (¬ LOW x → cmpS (κ (g c pv)) (κ x) < 0) := by
    intro x
    rw [← hLOW]
    constructor
    · intro h1 h2; exact h1 (cmpS_neg.1 h2)
    · intro h1; exact cmpS_neg.2 (Decidable.not_not.1 h1)
  refine L_block (L_loopV [9, 10] (fun n' vs H' => ∃ (i j : Nat) (d : List Int), n' = j + 1 - i ∧ a + 1 ≤ i ∧ i ≤ j + 1 ∧ j < b ∧ Shuf a b c d ∧ g d a = g c pv ∧ (∀ k, a < k → k < i → LOW (g d k)) ∧ (∀ k, j < k → k < b → ¬ LOW (g d k)) ∧ vs = [.int .i64 i, .int .i64 j] ∧ Rw r ver H' d ∧ KeepX r H H') _ [.int .i64 (a + 1 : Nat), .int .i64 b0] rfl ⟨a + 1, b0, d0, rfl, by omega, by omega, by omega, hS0, hpiv, fun k k1 k2 => by omega, fun k k1 k2 => by omega, rfl, e3, e4⟩ ?_)
  clear e3 e4 hS0 hpiv hd0 d0 hr H2 H3
  rintro _ _ H1 ⟨i, j, d, rfl, hi, hij0, hjb, hS, hpiv, hLo, hHi, rfl, hrow, hK⟩
  have hdl : d.length = n := by rw [hS.len]; exact hn
  have hdD := hD.perm hS.1
  have hCk := hC.keep hK
  have ha0 := hrow.ld (i := a) (by omega)
  rw [hpiv] at ha0
  have hdDa : D (g c pv) := by rw [← hpiv]; exact hdD a (by omega)
  refine L_block ?_
  refine L_blockR (fun e' H' => ∃ (x2 : Nat) (v : AV), i ≤ x2 ∧ x2 ≤ j + 1 ∧ (∀ k, a < k → k < x2 → LOW (g d k)) ∧ (x2 ≤ j → ¬ LOW (g d x2)) ∧ e' = [(0, SV sb r 0 n ver), (1, .int .i64 a), (9, .int .i64 (x2 : Nat)), (10, .int .i64 (j : Nat)), (43, v)] ∧ H1 = H') (L_loopV [9] (fun n' vs H' => ∃ x2 : Nat, n' = j + 1 - x2 ∧ i ≤ x2 ∧ x2 ≤ j + 1 ∧ (∀ k, a < k → k < x2 → LOW (g d k)) ∧ vs = [.int .i64 x2] ∧ H1 = H') _ [.int .i64 i] rfl ⟨i, rfl, by omega, by omega, hLo, rfl, rfl⟩ ?_) ?_
  · rintro n' _ _ ⟨x2, rfl, h1, h2, hR, rfl, rfl⟩
    by_cases hij : x2 ≤ j
    · have hx := hrow.ld (i := x2) (by omega)
      have g1 : x2 < n := by omega
      refine L_regT mixed [0, 1, 9, 10, 43] (by kernel_rfl) (fun K hK => ?_)
      simp [okFn_low, hij, g1, ga, hx, ha0]
      refine exC_mk (fun Q hQ => hCk.2 H1 (.refl _ _) _ _ hdDa (hdD x2 (by omega)) Q hQ) ?_
      simp [pickV]
      apply hK; clear hK K
      have hc := hlow (g d x2)
      by_cases hL : LOW (g d x2)
      · refine L_true (by first | simpa using hc.1 hL | simpa using hc.2 hL) ?_
        refine L_block ?_
        refine L_reg [0, 1, 9, 10] (fun K hK => ?_)
        simp [wrap_i64 (a := (x2 : Int) + 1) (by omega)]
        apply hK; clear hK K
        refine ⟨j + 1 - (x2 + 1), [.int .i64 (x2 + 1 : Nat)], by omega, by simp, x2 + 1, rfl, by omega, by omega, fun k k1 k2 => ?_, rfl, rfl⟩
        by_cases k3 : k = x2
        · rw [k3]; exact hL
        · exact hR k k1 (by omega)
      · refine L_false (by first | simpa using hc.1 hL | simpa using hc.2 hL) (L_exit ?_)
        exact ⟨x2, _, h1, h2, hR, fun _ => hL, rfl, rfl⟩
    · refine L_regT mixed [0, 1, 9, 10, 43] (by kernel_rfl) (fun K hK => ?_)
      simp [pickV, hij]
      apply hK; clear hK K
      refine L_false (by simp) (L_exit ?_)
      exact ⟨x2, _, h1, h2, hR, fun h => absurd h hij, rfl, rfl⟩
  rintro _ _ ⟨i1, vu, h1u, h2u, hRu, hsu, rfl, rfl⟩
  refine L_blockR (fun e' H' => ∃ (x2 : Nat) (v : AV), x2 ≤ j ∧ i1 ≤ x2 + 1 ∧ (∀ k, x2 < k → k < b → ¬ LOW (g d k)) ∧ (i1 ≤ x2 → LOW (g d x2)) ∧ e' = [(0, SV sb r 0 n ver), (1, .int .i64 a), (9, .int .i64 (i1 : Nat)), (10, .int .i64 (x2 : Nat)), (43, vu), (59, v)] ∧ H1 = H') (L_loopV [10] (fun n' vs H' => ∃ x2 : Nat, n' = x2 + 1 - i1 ∧ x2 ≤ j ∧ i1 ≤ x2 + 1 ∧ (∀ k, x2 < k → k < b → ¬ LOW (g d k)) ∧ vs = [.int .i64 x2] ∧ H1 = H') _ [.int .i64 j] rfl ⟨j, rfl, by omega, by omega, hHi, rfl, rfl⟩ ?_) ?_
  · rintro n' _ _ ⟨x2, rfl, h1, h2, hR, rfl, rfl⟩
    by_cases hij : i1 ≤ x2
    · have hx := hrow.ld (i := x2) (by omega)
      have g1 : x2 < n := by omega
      refine L_regT mixed [0, 1, 9, 10, 43, 59] (by kernel_rfl) (fun K hK => ?_)
      simp [okFn_low, hij, g1, ga, hx, ha0]
      refine exC_mk (fun Q hQ => hCk.2 H1 (.refl _ _) _ _ hdDa (hdD x2 (by omega)) Q hQ) ?_
      simp [pickV]
      apply hK; clear hK K
      have hc := hlow (g d x2)
      by_cases hL : LOW (g d x2)
      · refine L_false (by first | simpa using hc.1 hL | simpa using hc.2 hL) (L_exit ?_)
        exact ⟨x2, _, h1, h2, hR, fun _ => hL, rfl, rfl⟩
      · refine L_true (by first | simpa using hc.1 hL | simpa using hc.2 hL) ?_
        refine L_block ?_
        obtain ⟨x3, rfl⟩ : ∃ x3, x2 = x3 + 1 := ⟨x2 - 1, by omega⟩
        refine L_reg [0, 1, 9, 10, 43] (fun K hK => ?_)
        simp [wrap_i64 (a := (x3 : Int)) (by omega)]
        apply hK; clear hK K
        refine ⟨x3 + 1 - i1, [.int .i64 (x3 : Nat)], by omega, by simp, x3, rfl, by omega, by omega, fun k k1 k2 => ?_, rfl, rfl⟩
        by_cases k3 : k = x3 + 1
        · rw [k3]; exact hL
        · exact hR k (by omega) k2
    · refine L_regT mixed [0, 1, 9, 10, 43, 59] (by kernel_rfl) (fun K hK => ?_)
      simp [pickV, hij]
      apply hK; clear hK K
      refine L_false (by simp) (L_exit ?_)
      exact ⟨x2, _, h1, h2, hR, fun h => absurd h hij, rfl, rfl⟩
  rintro _ _ ⟨j1, vd, h1d, h2d, hRd, hsd, rfl, rfl⟩
  refine L_reg [0, 1, 9, 10, 64] (fun K hK => ?_)
  simp
  apply hK; clear hK K
  refine L_dec (j1 < i1) (by simp) (fun hlt => L_exit ?_) (fun hge => ?_)
  · refine L_reg [8] (fun K hK => ?_)
    simp
    apply hK; clear hK K
    have hLd : ∀ x, LOW x ↔ κ x ≤ κ (g c pv) := fun x => by rw [← hLOW]; exact Int.not_lt
    have e : i1 = j1 + 1 := by omega
    have q1 : ∀ k, a ≤ k → k < i1 → κ (g d k) ≤ κ (g c pv) := by
      intro k k1 k2
      by_cases k3 : k = a
      · rw [k3, hpiv]; exact Int.le_refl _
      · exact (hLd _).1 (hRu k (by omega) k2)
    have q2 : ∀ k, i1 ≤ k → k < b → κ (g c pv) < κ (g d k) := fun k k1 k2 => Int.not_le.1 fun h5 => hRd k (by omega) k2 ((hLd _).2 h5)
    exact L_ret ⟨.inr rfl, _, rfl, h H1 d i1 (by omega) (by omega) hS q1 q2 hrow hK⟩
  · have hl1 := hsu (by omega)
    have hl2 := hsd (by omega)
    have hne : i1 ≠ j1 := by rintro rfl; exact hl1 hl2
    obtain ⟨j2, rfl⟩ : ∃ j2, j1 = j2 + 1 := ⟨j1 - 1, by omega⟩
    have hx := hrow.ld (i := i1) (by omega)
    have hy := hrow.ld (i := j2 + 1) (by omega)
    obtain ⟨H2, H3, e1, e2, e3, e4⟩ := hrow.swap (i := i1) (j := j2 + 1) (by omega) (by omega)
    have g1 : i1 < n := by omega
    have g2 : (j2 : Int) + 1 < n := by omega
    have g3 : (0 : Int) ≤ (j2 : Int) + 1 := by omega
    have g4 : ((j2 : Int) + 1).toNat = j2 + 1 := by omega
    refine L_regT mixed [0, 1, 9, 10] (by kernel_rfl) (fun K hK => ?_)
    simp [g1, g2, g3, g4, hx, hy, e1, e2]
    apply hK; clear hK K
    refine L_reg [0, 1, 9, 10] (fun K hK => ?_)
    simp [wrap_i64 (a := (i1 : Int) + 1) (by omega)]
    apply hK; clear hK K
    refine L_reg [0, 1, 9, 10] (fun K hK => ?_)
    simp [wrap_i64 (a := (j2 : Int)) (by omega)]
    apply hK; clear hK K
    have w0 := sw_i (c := d) (i := i1) (j := j2 + 1) (by omega) (by omega)
    have w1 := sw_j (c := d) (i := i1) (j := j2 + 1) (by omega) (by omega)
    have w2 := fun (k : Nat) (k1 : k ≠ i1) (k2 : k ≠ j2 + 1) => sw_o (c := d) (i := i1) (j := j2 + 1) (by omega) (by omega) k1 k2
    refine ⟨j2 + 1 - (i1 + 1), [.int .i64 (i1 + 1 : Nat), .int .i64 j2], by omega, by simp, i1 + 1, j2, _, rfl, by omega, by omega, by omega, hS.trans (.swap (by omega) (by omega) (by omega)), by rw [w2 a (by omega) (by omega)]; exact hpiv, fun k k1 k2 => ?_, fun k k1 k2 => ?_, rfl, e3, hK.trans e4⟩
    · by_cases k3 : k = i1
      · rw [k3, w0]; exact hl2
      · rw [w2 k k3 (by omega)]; exact hRu k k1 (by omega)
    · by_cases k3 : k = j2 + 1
      · rw [k3, w1]; exact hl1
      · rw [w2 k (by omega) k3]; exact hRd k (by omega) k2
end Go.Proofs.YtmlhekfkniibmaaDoor.Ord

/- Sorting numbers (Part2). -/
namespace Go.Proofs.YtmlhekfkniibmaaDoor.Ord
open Go Go.Proofs.YtmlhekfkniibmaaDoor.AX Go.Proofs.YtmlhekfkniibmaaDoor
variable {sb : Bool}

set_option maxRecDepth 100000 in
theorem part_ac (D : Int → Prop) (κ : Int → Int) (r ver a b pv : Nat) (c : List Int) (H : AH) (Q : AV → AH → Prop) (hC : CmpO D κ r H) (hr : Rw r ver H c) (hD : All D c) (hl : c.length ≤ 1000000) (hpa : a ≤ pv) (hpb : pv < b) (hb : b ≤ c.length)
    (h : ∀ (H' : AH) (m : List Int) (p : Nat) (bb : Bool), a ≤ p → p < b → Shuf a b c m → (∀ k, a ≤ k → k < p → κ (g m k) ≤ κ (g m p)) → (∀ k, p < k → k < b → κ (g m p) ≤ κ (g m k)) → Rw r ver H' m → KeepX r H H' → Q (.tuple [.int .i64 p, .bool bb]) H') : AC Tryd.prog 78 [SV sb r 0 c.length ver, .int .i64 a, .int .i64 b, .int .i64 pv] H Q := by
  refine L_body 168 Tryd.func78 rfl rfl ?_
  refine L_reg [0, 1, 2, 3] (fun K hK => ?_)
  simp
  apply hK; clear hK K
  generalize hn : c.length = n at *
  obtain ⟨b0, rfl⟩ : ∃ b', b = b' + 1 := ⟨b - 1, by omega⟩
  generalize hb0 : b0 + 1 = b at *
  have hx0 := hr.ld (i := pv) (by omega)
  have hy0 := hr.ld (i := a) (by omega)
  obtain ⟨H2, H3, e1, e2, e3, e4⟩ := hr.swap (i := a) (j := pv) (by omega) (by omega)
  have ga : a < n := by omega
  have gp : pv < n := by omega
  refine L_regT mixed [0, 1, 2] (by kernel_rfl) (fun K hK => ?_)
  simp [ga, gp, hx0, hy0, e1, e2]
  apply hK; clear hK K
  have hbi : (b : Int) - 1 = b0 := by omega
  obtain ⟨i, hi⟩ : ∃ i : Nat, (a : Int) + 1 = i := ⟨a + 1, by omega⟩
  refine L_reg [0, 1, 10, 11] (fun K hK => ?_)
  simp [hi, wrap_i64 (a := (i : Int)) (by omega), hbi, wrap_i64 (a := (b0 : Int)) (by omega)]
  apply hK; clear hK K
  have hS0 : Shuf a b c (sw c a pv) := .swap (by omega) (by omega) (by omega)
  have hpiv : g (sw c a pv) a = g c pv := sw_i (by omega) (by omega)
  generalize hd0 : sw c a pv = d0 at e3 hS0 hpiv
  clear e1 e2 hx0 hy0
  generalize hLOW : (fun x => κ x < κ (g c pv)) = LOW
  have hlow : ∀ x, (LOW x → cmpS (κ x) (κ (g c pv)) < 0) ∧ (¬ LOW x → ¬ cmpS (κ x) (κ (g c pv)) < 0) := by
    intro x
    rw [← hLOW]
    constructor
    · intro h1; exact cmpS_neg.2 h1
    · intro h1 h2; exact h1 (cmpS_neg.1 h2)
  have hLd : ∀ x, LOW x ↔ κ x < κ (g c pv) := fun x => by rw [← hLOW]
  have hdD := hD.perm hS0.1
  have hCk := hC.keep e4
  have hdl : d0.length = n := by rw [hS0.len]; exact hn
  have ha0 := e3.ld (i := a) (by omega)
  have hLo : ∀ k, a < k → k < i → LOW (g d0 k) := fun k k1 k2 => by omega
  have hHi : ∀ k, b0 < k → k < b → ¬ LOW (g d0 k) := fun k k1 k2 => by omega
  rw [hpiv] at ha0
  have hdDa : D (g c pv) := by rw [← hpiv]; exact hdD a (by omega)
  have hrow := e3
  clear e3
  clear hd0
  generalize H3 = H1 at *
  generalize d0 = d at *
  generalize hj0 : b0 = j at *
  refine L_blockR (fun e' H' => ∃ (x2 : Nat) (v : AV), i ≤ x2 ∧ x2 ≤ j + 1 ∧ (∀ k, a < k → k < x2 → LOW (g d k)) ∧ (x2 ≤ j → ¬ LOW (g d x2)) ∧ e' = [(0, SV sb r 0 n ver), (1, .int .i64 a), (10, .int .i64 (x2 : Nat)), (11, .int .i64 (j : Nat)), (43, v)] ∧ H1 = H') (L_loopV [10] (fun n' vs H' => ∃ x2 : Nat, n' = j + 1 - x2 ∧ i ≤ x2 ∧ x2 ≤ j + 1 ∧ (∀ k, a < k → k < x2 → LOW (g d k)) ∧ vs = [.int .i64 x2] ∧ H1 = H') _ [.int .i64 i] rfl ⟨i, rfl, by omega, by omega, hLo, rfl, rfl⟩ ?_) ?_
  · rintro n' _ _ ⟨x2, rfl, h1, h2, hR, rfl, rfl⟩
    by_cases hij : x2 ≤ j
    · have hx := hrow.ld (i := x2) (by omega)
      have g1 : x2 < n := by omega
      refine L_regT mixed [0, 1, 10, 11, 43] (by kernel_rfl) (fun K hK => ?_)
      simp [okFn_low, hij, g1, ga, hx, ha0]
      refine exC_mk (fun Q hQ => hCk.2 H1 (.refl _ _) _ _ (hdD x2 (by omega)) hdDa Q hQ) ?_
      simp [pickV]
      apply hK; clear hK K
      have hc := hlow (g d x2)
      by_cases hL : LOW (g d x2)
      · refine L_true (by first | simpa using hc.1 hL | simpa using hc.2 hL) ?_
        refine L_block ?_
        refine L_reg [0, 1, 10, 11] (fun K hK => ?_)
        simp [wrap_i64 (a := (x2 : Int) + 1) (by omega)]
        apply hK; clear hK K
        refine ⟨j + 1 - (x2 + 1), [.int .i64 (x2 + 1 : Nat)], by omega, by simp, x2 + 1, rfl, by omega, by omega, fun k k1 k2 => ?_, rfl, rfl⟩
        by_cases k3 : k = x2
        · rw [k3]; exact hL
        · exact hR k k1 (by omega)
      · refine L_false (by first | simpa using hc.1 hL | simpa using hc.2 hL) (L_exit ?_)
        exact ⟨x2, _, h1, h2, hR, fun _ => hL, rfl, rfl⟩
    · refine L_regT mixed [0, 1, 10, 11, 43] (by kernel_rfl) (fun K hK => ?_)
      simp [pickV, hij]
      apply hK; clear hK K
      refine L_false (by simp) (L_exit ?_)
      exact ⟨x2, _, h1, h2, hR, fun h => absurd h hij, rfl, rfl⟩
  rintro _ _ ⟨i1, vu, h1u, h2u, hRu, hsu, rfl, rfl⟩
  refine L_blockR (fun e' H' => ∃ (x2 : Nat) (v : AV), x2 ≤ j ∧ i1 ≤ x2 + 1 ∧ (∀ k, x2 < k → k < b → ¬ LOW (g d k)) ∧ (i1 ≤ x2 → LOW (g d x2)) ∧ e' = [(0, SV sb r 0 n ver), (1, .int .i64 a), (10, .int .i64 (i1 : Nat)), (11, .int .i64 (x2 : Nat)), (43, vu), (60, v)] ∧ H1 = H') (L_loopV [11] (fun n' vs H' => ∃ x2 : Nat, n' = x2 + 1 - i1 ∧ x2 ≤ j ∧ i1 ≤ x2 + 1 ∧ (∀ k, x2 < k → k < b → ¬ LOW (g d k)) ∧ vs = [.int .i64 x2] ∧ H1 = H') _ [.int .i64 j] rfl ⟨j, rfl, by omega, by omega, hHi, rfl, rfl⟩ ?_) ?_
  · rintro n' _ _ ⟨x2, rfl, h1, h2, hR, rfl, rfl⟩
    by_cases hij : i1 ≤ x2
    · have hx := hrow.ld (i := x2) (by omega)
      have g1 : x2 < n := by omega
      refine L_regT mixed [0, 1, 10, 11, 43, 60] (by kernel_rfl) (fun K hK => ?_)
      simp [okFn_low, hij, g1, ga, hx, ha0]
      refine exC_mk (fun Q hQ => hCk.2 H1 (.refl _ _) _ _ (hdD x2 (by omega)) hdDa Q hQ) ?_
      simp [pickV]
      apply hK; clear hK K
      have hc := hlow (g d x2)
      by_cases hL : LOW (g d x2)
      · refine L_false (by first | simpa using hc.1 hL | simpa using hc.2 hL) (L_exit ?_)
        exact ⟨x2, _, h1, h2, hR, fun _ => hL, rfl, rfl⟩
      · refine L_true (by first | simpa using hc.1 hL | simpa using hc.2 hL) ?_
        refine L_block ?_
        obtain ⟨x3, rfl⟩ : ∃ x3, x2 = x3 + 1 := ⟨x2 - 1, by omega⟩
        refine L_reg [0, 1, 10, 11, 43] (fun K hK => ?_)
        simp [wrap_i64 (a := (x3 : Int)) (by omega)]
        apply hK; clear hK K
        refine ⟨x3 + 1 - i1, [.int .i64 (x3 : Nat)], by omega, by simp, x3, rfl, by omega, by omega, fun k k1 k2 => ?_, rfl, rfl⟩
        by_cases k3 : k = x3 + 1
        · rw [k3]; exact hL
        · exact hR k (by omega) k2
    · refine L_regT mixed [0, 1, 10, 11, 43, 60] (by kernel_rfl) (fun K hK => ?_)
      simp [pickV, hij]
      apply hK; clear hK K
      refine L_false (by simp) (L_exit ?_)
      exact ⟨x2, _, h1, h2, hR, fun h => absurd h hij, rfl, rfl⟩
  rintro _ _ ⟨j1, vd, h1d, h2d, hRd, hsd, rfl, rfl⟩
  refine L_reg [0, 1, 10, 11, 65] (fun K hK => ?_)
  simp
  apply hK; clear hK K
  refine L_dec (j1 < i1) (by simp) (fun hlt => ?_) (fun hge => ?_)
  · have e : i1 = j1 + 1 := by omega
    obtain ⟨f1, f2, f3⟩ := part_fin (D := κ) hLd (by omega) (show a ≤ j1 by omega) (by omega) hS0 hpiv (by rw [← e]; exact hRu) hRd
    have hx := hrow.ld (i := j1) (by omega)
    obtain ⟨H4, H5, e1, e2, e3, e5⟩ := hrow.swap (i := j1) (j := a) (by omega) (by omega)
    rw [hpiv] at e1
    have g1 : j1 < n := by omega
    refine L_regT mixed [11] (by kernel_rfl) (fun K hK => ?_)
    simp [g1, ga, hx, ha0, e1, e2]
    apply hK; clear hK K
    refine L_reg [8, 9] (fun K hK => ?_)
    simp
    apply hK; clear hK K
    exact L_ret ⟨.inr rfl, _, rfl, h H5 _ j1 true (by omega) (by omega) f1 f2 f3 e3 (e4.trans e5)⟩
  · have hl1 := hsu (by omega)
    have hl2 := hsd (by omega)
    have hne : i1 ≠ j1 := by rintro rfl; exact hl1 hl2
    obtain ⟨j2, rfl⟩ : ∃ j2, j1 = j2 + 1 := ⟨j1 - 1, by omega⟩
    have hx := hrow.ld (i := i1) (by omega)
    have hy := hrow.ld (i := j2 + 1) (by omega)
    obtain ⟨H4, H5, e1, e2, e3, e5⟩ := hrow.swap (i := i1) (j := j2 + 1) (by omega) (by omega)
    have g1 : i1 < n := by omega
    have g2 : (j2 : Int) + 1 < n := by omega
    have g3 : (0 : Int) ≤ (j2 : Int) + 1 := by omega
    have g4 : ((j2 : Int) + 1).toNat = j2 + 1 := by omega
    refine L_regT mixed [0, 1, 10, 11] (by kernel_rfl) (fun K hK => ?_)
    simp [g1, g2, g3, g4, hx, hy, e1, e2]
    apply hK; clear hK K
    refine L_reg [0, 1, 10, 11] (fun K hK => ?_)
    simp [wrap_i64 (a := (i1 : Int) + 1) (by omega)]
    apply hK; clear hK K
    refine L_reg [0, 1, 10, 11] (fun K hK => ?_)
    simp [wrap_i64 (a := (j2 : Int)) (by omega)]
    apply hK; clear hK K
    have w0 := sw_i (c := d) (i := i1) (j := j2 + 1) (by omega) (by omega)
    have w1 := sw_j (c := d) (i := i1) (j := j2 + 1) (by omega) (by omega)
    have w2 := fun (k : Nat) (k1 : k ≠ i1) (k2 : k ≠ j2 + 1) => sw_o (c := d) (i := i1) (j := j2 + 1) (by omega) (by omega) k1 k2
    refine L_block (L_loopV [10, 11] (fun n' vs H' => ∃ (i j : Nat) (d : List Int), n' = j + 1 - i ∧ a + 1 ≤ i ∧ i ≤ j + 1 ∧ j < b ∧ Shuf a b c d ∧ g d a = g c pv ∧ (∀ k, a < k → k < i → LOW (g d k)) ∧ (∀ k, j < k → k < b → ¬ LOW (g d k)) ∧ vs = [.int .i64 i, .int .i64 j] ∧ Rw r ver H' d ∧ KeepX r H H') _ [.int .i64 (i1 + 1 : Nat), .int .i64 j2] rfl ⟨i1 + 1, j2, sw d i1 (j2 + 1), rfl, by omega, by omega, by omega, hS0.trans (.swap (by omega) (by omega) (by omega)), by rw [w2 a (by omega) (by omega)]; exact hpiv, fun k k1 k2 => ?_, fun k k1 k2 => ?_, rfl, e3, e4.trans e5⟩ ?_)
    · by_cases k3 : k = i1
      · rw [k3, w0]; exact hl2
      · rw [w2 k k3 (by omega)]; exact hRu k k1 (by omega)
    · by_cases k3 : k = j2 + 1
      · rw [k3, w1]; exact hl1
      · rw [w2 k (by omega) k3]; exact hRd k (by omega) k2
    clear w0 w1 w2 e1 e2 e3 e5 hx hy hl1 hl2 hsu hsd hRu hRd hne hrow e4 hS0 hpiv hdl hdD hCk ha0 hdDa hLo hHi g1 g2 g3 g4 hr
    clear H4 H5
    clear d
    clear H1
    rintro _ _ H1 ⟨i, j, d, rfl, hi, hij0, hjb, hS, hpiv, hLo, hHi, rfl, hrow, hK⟩
    have hdl : d.length = n := by rw [hS.len]; exact hn
    have hdD := hD.perm hS.1
    have hCk := hC.keep hK
    have ha0 := hrow.ld (i := a) (by omega)
    rw [hpiv] at ha0
    have hdDa : D (g c pv) := by rw [← hpiv]; exact hdD a (by omega)
    refine L_block ?_
    refine L_blockR (fun e' H' => ∃ (x2 : Nat) (v : AV), i ≤ x2 ∧ x2 ≤ j + 1 ∧ (∀ k, a < k → k < x2 → LOW (g d k)) ∧ (x2 ≤ j → ¬ LOW (g d x2)) ∧ e' = [(0, SV sb r 0 n ver), (1, .int .i64 a), (10, .int .i64 (x2 : Nat)), (11, .int .i64 (j : Nat)), (112, v)] ∧ H1 = H') (L_loopV [10] (fun n' vs H' => ∃ x2 : Nat, n' = j + 1 - x2 ∧ i ≤ x2 ∧ x2 ≤ j + 1 ∧ (∀ k, a < k → k < x2 → LOW (g d k)) ∧ vs = [.int .i64 x2] ∧ H1 = H') _ [.int .i64 i] rfl ⟨i, rfl, by omega, by omega, hLo, rfl, rfl⟩ ?_) ?_
    · rintro n' _ _ ⟨x2, rfl, h1, h2, hR, rfl, rfl⟩
      by_cases hij : x2 ≤ j
      · have hx := hrow.ld (i := x2) (by omega)
        have g1 : x2 < n := by omega
        refine L_regT mixed [0, 1, 10, 11, 112] (by kernel_rfl) (fun K hK => ?_)
        simp [okFn_low, hij, g1, ga, hx, ha0]
        refine exC_mk (fun Q hQ => hCk.2 H1 (.refl _ _) _ _ (hdD x2 (by omega)) hdDa Q hQ) ?_
        simp [pickV]
        apply hK; clear hK K
        have hc := hlow (g d x2)
        by_cases hL : LOW (g d x2)
        · refine L_true (by first | simpa using hc.1 hL | simpa using hc.2 hL) ?_
          refine L_block ?_
          refine L_reg [0, 1, 10, 11] (fun K hK => ?_)
          simp [wrap_i64 (a := (x2 : Int) + 1) (by omega)]
          apply hK; clear hK K
          refine ⟨j + 1 - (x2 + 1), [.int .i64 (x2 + 1 : Nat)], by omega, by simp, x2 + 1, rfl, by omega, by omega, fun k k1 k2 => ?_, rfl, rfl⟩
          by_cases k3 : k = x2
          · rw [k3]; exact hL
          · exact hR k k1 (by omega)
        · refine L_false (by first | simpa using hc.1 hL | simpa using hc.2 hL) (L_exit ?_)
          exact ⟨x2, _, h1, h2, hR, fun _ => hL, rfl, rfl⟩
      · refine L_regT mixed [0, 1, 10, 11, 112] (by kernel_rfl) (fun K hK => ?_)
        simp [pickV, hij]
        apply hK; clear hK K
        refine L_false (by simp) (L_exit ?_)
        exact ⟨x2, _, h1, h2, hR, fun h => absurd h hij, rfl, rfl⟩
    rintro _ _ ⟨i3, vu, h1u, h2u, hRu, hsu, rfl, rfl⟩
    refine L_blockR (fun e' H' => ∃ (x2 : Nat) (v : AV), x2 ≤ j ∧ i3 ≤ x2 + 1 ∧ (∀ k, x2 < k → k < b → ¬ LOW (g d k)) ∧ (i3 ≤ x2 → LOW (g d x2)) ∧ e' = [(0, SV sb r 0 n ver), (1, .int .i64 a), (10, .int .i64 (i3 : Nat)), (11, .int .i64 (x2 : Nat)), (112, vu), (129, v)] ∧ H1 = H') (L_loopV [11] (fun n' vs H' => ∃ x2 : Nat, n' = x2 + 1 - i3 ∧ x2 ≤ j ∧ i3 ≤ x2 + 1 ∧ (∀ k, x2 < k → k < b → ¬ LOW (g d k)) ∧ vs = [.int .i64 x2] ∧ H1 = H') _ [.int .i64 j] rfl ⟨j, rfl, by omega, by omega, hHi, rfl, rfl⟩ ?_) ?_
    · rintro n' _ _ ⟨x2, rfl, h1, h2, hR, rfl, rfl⟩
      by_cases hij : i3 ≤ x2
      · have hx := hrow.ld (i := x2) (by omega)
        have g1 : x2 < n := by omega
        refine L_regT mixed [0, 1, 10, 11, 112, 129] (by kernel_rfl) (fun K hK => ?_)
        simp [okFn_low, hij, g1, ga, hx, ha0]
        refine exC_mk (fun Q hQ => hCk.2 H1 (.refl _ _) _ _ (hdD x2 (by omega)) hdDa Q hQ) ?_
        simp [pickV]
        apply hK; clear hK K
        have hc := hlow (g d x2)
        by_cases hL : LOW (g d x2)
        · refine L_false (by first | simpa using hc.1 hL | simpa using hc.2 hL) (L_exit ?_)
          exact ⟨x2, _, h1, h2, hR, fun _ => hL, rfl, rfl⟩
        · refine L_true (by first | simpa using hc.1 hL | simpa using hc.2 hL) ?_
          refine L_block ?_
          obtain ⟨x3, rfl⟩ : ∃ x3, x2 = x3 + 1 := ⟨x2 - 1, by omega⟩
          refine L_reg [0, 1, 10, 11, 112] (fun K hK => ?_)
          simp [wrap_i64 (a := (x3 : Int)) (by omega)]
          apply hK; clear hK K
          refine ⟨x3 + 1 - i3, [.int .i64 (x3 : Nat)], by omega, by simp, x3, rfl, by omega, by omega, fun k k1 k2 => ?_, rfl, rfl⟩
          by_cases k3 : k = x3 + 1
          · rw [k3]; exact hL
          · exact hR k (by omega) k2
      · refine L_regT mixed [0, 1, 10, 11, 112, 129] (by kernel_rfl) (fun K hK => ?_)
        simp [pickV, hij]
        apply hK; clear hK K
        refine L_false (by simp) (L_exit ?_)
        exact ⟨x2, _, h1, h2, hR, fun h => absurd h hij, rfl, rfl⟩
    rintro _ _ ⟨j3, vd, h1d, h2d, hRd, hsd, rfl, rfl⟩
    refine L_reg [0, 1, 10, 11, 134] (fun K hK => ?_)
    simp
    apply hK; clear hK K
    refine L_dec (j3 < i3) (by simp) (fun hlt => L_exit ?_) (fun hge => ?_)
    · have e : i3 = j3 + 1 := by omega
      obtain ⟨f1, f2, f3⟩ := part_fin (D := κ) hLd (by omega) (show a ≤ j3 by omega) (by omega) hS hpiv (by rw [← e]; exact hRu) hRd
      have hx := hrow.ld (i := j3) (by omega)
      obtain ⟨H4, H5, e1, e2, e3, e5⟩ := hrow.swap (i := j3) (j := a) (by omega) (by omega)
      rw [hpiv] at e1
      have g1 : j3 < n := by omega
      refine L_regT mixed [11] (by kernel_rfl) (fun K hK => ?_)
      simp [g1, ga, hx, ha0, e1, e2]
      apply hK; clear hK K
      refine L_reg [8, 9] (fun K hK => ?_)
      simp
      apply hK; clear hK K
      exact L_ret ⟨.inr rfl, _, rfl, h H5 _ j3 false (by omega) (by omega) f1 f2 f3 e3 (hK.trans e5)⟩
    · have hl1 := hsu (by omega)
      have hl2 := hsd (by omega)
      have hne : i3 ≠ j3 := by rintro rfl; exact hl1 hl2
      obtain ⟨j2, rfl⟩ : ∃ j2, j3 = j2 + 1 := ⟨j3 - 1, by omega⟩
      have hx := hrow.ld (i := i3) (by omega)
      have hy := hrow.ld (i := j2 + 1) (by omega)
      obtain ⟨H2, H3, e1, e2, e3, e4⟩ := hrow.swap (i := i3) (j := j2 + 1) (by omega) (by omega)
      have g1 : i3 < n := by omega
      have g2 : (j2 : Int) + 1 < n := by omega
      have g3 : (0 : Int) ≤ (j2 : Int) + 1 := by omega
      have g4 : ((j2 : Int) + 1).toNat = j2 + 1 := by omega
      refine L_regT mixed [0, 1, 10, 11] (by kernel_rfl) (fun K hK => ?_)
      simp [g1, g2, g3, g4, hx, hy, e1, e2]
      apply hK; clear hK K
      refine L_reg [0, 1, 10, 11] (fun K hK => ?_)
      simp [wrap_i64 (a := (i3 : Int) + 1) (by omega)]
      apply hK; clear hK K
      refine L_reg [0, 1, 10, 11] (fun K hK => ?_)
      simp [wrap_i64 (a := (j2 : Int)) (by omega)]
      apply hK; clear hK K
      have w0 := sw_i (c := d) (i := i3) (j := j2 + 1) (by omega) (by omega)
      have w1 := sw_j (c := d) (i := i3) (j := j2 + 1) (by omega) (by omega)
      have w2 := fun (k : Nat) (k1 : k ≠ i3) (k2 : k ≠ j2 + 1) => sw_o (c := d) (i := i3) (j := j2 + 1) (by omega) (by omega) k1 k2
      refine ⟨j2 + 1 - (i3 + 1), [.int .i64 (i3 + 1 : Nat), .int .i64 j2], by omega, by simp, i3 + 1, j2, _, rfl, by omega, by omega, by omega, hS.trans (.swap (by omega) (by omega) (by omega)), by rw [w2 a (by omega) (by omega)]; exact hpiv, fun k k1 k2 => ?_, fun k k1 k2 => ?_, rfl, e3, hK.trans e4⟩
      · by_cases k3 : k = i3
        · rw [k3, w0]; exact hl2
        · rw [w2 k k3 (by omega)]; exact hRu k k1 (by omega)
      · by_cases k3 : k = j2 + 1
        · rw [k3, w1]; exact hl1
        · rw [w2 k (by omega) k3]; exact hRd k (by omega) k2
end Go.Proofs.YtmlhekfkniibmaaDoor.Ord

/- Sorting numbers (Heap). -/
namespace Go.Proofs.YtmlhekfkniibmaaDoor.Ord
open Go Go.Proofs.YtmlhekfkniibmaaDoor.AX Go.Proofs.YtmlhekfkniibmaaDoor
variable {sb : Bool}

set_option maxRecDepth 100000 in
theorem siftDown_ac (D : Int → Prop) (κ : Int → Int) (r ver lo hi fi : Nat) (c : List Int) (H : AH) (Q : AV → AH → Prop) (hC : CmpO D κ r H) (hr : Rw r ver H c) (hD : All D c) (hl : c.length ≤ 1000000) (hb : fi + hi ≤ c.length) (hlo : lo ≤ hi) (hH : ∀ i, lo < i → Hp κ fi hi c i)
    (h : ∀ (H' : AH) (m : List Int), Shuf (fi + lo) (fi + hi) c m → (∀ i, lo ≤ i → Hp κ fi hi m i) → Rw r ver H' m → KeepX r H H' → Q (.tuple []) H') : AC Tryd.prog 90 [SV sb r 0 c.length ver, .int .i64 lo, .int .i64 hi, .int .i64 fi] H Q := by
  refine L_body 76 Tryd.func90 rfl rfl ?_
  refine L_reg [0, 2, 3, 8] (fun K hK => ?_)
  simp
  apply hK; clear hK K
  generalize hn : c.length = n at *
  refine L_block (L_loopV [8] (fun k vs H' => ∃ (ro : Nat) (d : List Int), k = hi - ro ∧ lo ≤ ro ∧ ro ≤ hi ∧ Shuf (fi + lo) (fi + hi) c d ∧ (∀ i, lo ≤ i → i ≠ ro → Hp κ fi hi d i) ∧ (∀ i, lo ≤ i → ro = 2 * i + 1 ∨ ro = 2 * i + 2 → ∀ q, q = 2 * ro + 1 ∨ q = 2 * ro + 2 → q < hi → κ (g d (fi + q)) ≤ κ (g d (fi + i))) ∧ vs = [.int .i64 ro] ∧ Rw r ver H' d ∧ KeepX r H H') _ [.int .i64 lo] rfl ⟨lo, c, rfl, by omega, by omega, .refl _ _ _, fun i h1 h2 => hH i (by omega), fun i h1 h2 => by omega, rfl, hr, .refl r H⟩ ?_)
  rintro _ _ H1 ⟨ro, d, rfl, hro, hroh, hS, h1, h2, rfl, hrow, hK⟩
  have hdl : d.length = n := by rw [hS.len]; exact hn
  have hdD := hD.perm hS.1
  have hCk := hC.keep hK
  refine L_block ?_
  obtain ⟨ch, hch⟩ : ∃ ch : Nat, 2 * (ro : Int) + 1 = ch := ⟨2 * ro + 1, by omega⟩
  refine L_reg [0, 2, 3, 8, 9] (fun K hK => ?_)
  simp [wrap_i64 (a := 2 * (ro : Int)) (by omega), hch, wrap_i64 (a := (ch : Int)) (by omega)]
  apply hK; clear hK K
  refine L_reg [0, 2, 3, 8, 9, 16] (fun K hK => ?_)
  simp
  apply hK; clear hK K
  refine L_dec (hi ≤ ch) (by simp) (fun hge => L_exit ?_) (fun hlt => ?_)
  · refine ⟨.inl rfl, _, rfl, h H1 d hS (fun i hi1 => ?_) hrow hK⟩
    by_cases e : i = ro
    · subst e; intro c hc hch; omega
    · exact h1 i hi1 e
  obtain ⟨ix, hix⟩ : ∃ ix : Nat, (fi : Int) + ch = ix := ⟨fi + ch, by omega⟩
  have hixn : ix = fi + ch := by omega
  refine L_regT mixed [0, 2, 3, 8, 9, 36] (by kernel_rfl) (fun K hK0 => ?_)
  have hK2 : ∀ t : Bool, (t = true → ch + 1 < hi ∧ κ (g d (fi + ch)) < κ (g d (fi + (ch + 1)))) → (t = false → ch + 1 < hi → κ (g d (fi + (ch + 1))) ≤ κ (g d (fi + ch))) → K [(0, SV sb r 0 n ver), (2, .int .i64 hi), (3, .int .i64 fi), (8, .int .i64 ro), (9, .int .i64 ch), (36, .bool t)] H1 := by
    intro t ht1 ht2
    refine hK0 _ _ ?_
    clear hK0 K
    refine L_condK [0, 2, 3, 8, 9] (fun e' H' => ∃ c2 : Nat, (c2 = ch ∨ c2 = ch + 1) ∧ c2 < hi ∧ (∀ q, q = ch ∨ q = ch + 1 → q < hi → κ (g d (fi + q)) ≤ κ (g d (fi + c2))) ∧ e' = [(0, SV sb r 0 n ver), (2, .int .i64 hi), (3, .int .i64 fi), (8, .int .i64 ro), (9, .int .i64 (c2 : Nat))] ∧ H1 = H') (t := t) rfl (fun ht => ?_) (fun ht => ?_) ?_
    · obtain ⟨g1, g2⟩ := ht1 ht
      refine L_reg [0, 2, 3, 8, 9] (fun K hK => ?_)
      simp [wrap_i64 (a := (ch : Int) + 1) (by omega)]
      apply hK; clear hK K
      refine ⟨ch + 1, .inr rfl, g1, fun q hq1 hq2 => ?_, by simp, rfl⟩
      rcases hq1 with rfl | rfl <;> omega
    · refine ⟨ch, .inl rfl, by omega, fun q hq1 hq2 => ?_, by simp, rfl⟩
      rcases hq1 with rfl | rfl
      · omega
      · exact ht2 ht hq2
    · rintro _ _ ⟨c2, hc2, hc2h, hbig, rfl, rfl⟩
      clear ht1 ht2
      have hc2ro : c2 = 2 * ro + 1 ∨ c2 = 2 * ro + 2 := by omega
      obtain ⟨ia, hia⟩ : ∃ ix : Nat, (fi : Int) + ro = ix := ⟨fi + ro, by omega⟩
      obtain ⟨ib, hib⟩ : ∃ ix : Nat, (fi : Int) + c2 = ix := ⟨fi + c2, by omega⟩
      have hian : ia = fi + ro := by omega
      have hibn : ib = fi + c2 := by omega
      have hx := hrow.ld (i := ia) (by omega)
      have hy := hrow.ld (i := ib) (by omega)
      have ga : ia < n := by omega
      have gb : ib < n := by omega
      refine L_regT mixed [0, 2, 3, 8, 9, 52] (by kernel_rfl) (fun K hK => ?_)
      simp [okFn_low, hia, hib, ga, gb, hx, hy, wrap_i64 (a := (ia : Int)) (by omega), wrap_i64 (a := (ib : Int)) (by omega)]
      refine exC_mk (fun Q hQ => hCk.2 H1 (.refl _ _) _ _ (hdD ia (by omega)) (hdD ib (by omega)) Q hQ) ?_
      simp
      apply hK; clear hK K
      by_cases hless : κ (g d ia) < κ (g d ib)
      · refine L_false (by simpa using cmpS_neg.2 hless) ?_
        obtain ⟨H2, H3, e1, e2, e3, e4⟩ := hrow.swap (i := ia) (j := ib) (by omega) (by omega)
        refine L_regT mixed [0, 2, 3, 9] (by kernel_rfl) (fun K hK => ?_)
        simp [hia, hib, ga, gb, hx, hy, e1, e2, wrap_i64 (a := (ia : Int)) (by omega), wrap_i64 (a := (ib : Int)) (by omega)]
        apply hK; clear hK K
        refine L_reg [0, 2, 3, 8] (fun K hK => ?_)
        simp
        apply hK; clear hK K
        have w0 := sw_i (c := d) (i := ia) (j := ib) (by omega) (by omega)
        have w1 := sw_j (c := d) (i := ia) (j := ib) (by omega) (by omega)
        have w2 := fun (k : Nat) (k1 : k ≠ ia) (k2 : k ≠ ib) => sw_o (c := d) (i := ia) (j := ib) (by omega) (by omega) k1 k2
        subst hian
        subst hibn
        have v0 : g (sw d (fi + ro) (fi + c2)) (fi + ro) = g d (fi + c2) := w0
        have v1 : g (sw d (fi + ro) (fi + c2)) (fi + c2) = g d (fi + ro) := w1
        have v2 : ∀ k, k ≠ ro → k ≠ c2 → g (sw d (fi + ro) (fi + c2)) (fi + k) = g d (fi + k) := fun k k1 k2 => w2 _ (by omega) (by omega)
        refine ⟨hi - c2, [.int .i64 (c2 : Nat)], by omega, by simp, c2, _, rfl, by omega, by omega, hS.trans (.swap (by omega) (by omega) (by omega)), fun i i1 i2 q q1 q2 => ?_, fun i i1 i2 q q1 q2 => ?_, rfl, e3, hK.trans e4⟩
        · by_cases e : i = ro
          · subst e
            rw [v0]
            by_cases q3 : q = c2
            · rw [q3, v1]; omega
            · rw [v2 q (by omega) q3]; exact hbig q (by omega) q2
          · have h3 := h1 i i1 e q q1 q2
            rw [v2 i e i2]
            by_cases q3 : q = ro
            · rw [q3, v0]; exact h2 i i1 (by omega) c2 hc2ro hc2h
            · rw [v2 q q3 (by omega)]; exact h3
        · have : i = ro := by omega
          subst this
          rw [v0, v2 q (by omega) (by omega)]
          exact h1 c2 (by omega) (by omega) q q1 q2
      · have hneg : ¬ cmpS (κ (g d ia)) (κ (g d ib)) < 0 := fun h => hless (cmpS_neg.1 h)
        refine L_true (by simpa using hneg) ?_
        refine L_ret ⟨.inr rfl, _, rfl, h H1 d hS (fun i hi1 => ?_) hrow hK⟩
        by_cases e : i = ro
        · subst e
          intro q q1 q2
          have := hbig q (by omega) q2
          rw [hian, hibn] at hless
          omega
        · exact h1 i hi1 e
  by_cases hc1 : ch + 1 < hi
  · have hx := hrow.ld (i := ix) (by omega)
    have hy := hrow.ld (i := ix + 1) (by omega)
    have g1 : ix < n := by omega
    have g2 : (ix : Int) + 1 < n := by omega
    have g3 : (0 : Int) ≤ (ix : Int) + 1 := by omega
    have g4 : ((ix : Int) + 1).toNat = ix + 1 := by omega
    have g5 : (ch : Int) + 1 < hi := by omega
    simp [okFn_low, hix, g1, g2, g3, g4, g5, hx, hy, wrap_i64 (a := (ch : Int) + 1) (by omega), wrap_i64 (a := (ix : Int)) (by omega), wrap_i64 (a := (ix : Int) + 1) (by omega)]
    refine exC_mk (fun Q hQ => hCk.2 H1 (.refl _ _) _ _ (hdD ix (by omega)) (hdD (ix + 1) (by omega)) Q hQ) ?_
    simp [pickV]
    refine hK2 _ (fun ht => ⟨hc1, ?_⟩) (fun ht _ => ?_)
    · have := cmpS_neg.1 (of_decide_eq_true ht)
      rw [hixn] at this; exact this
    · have : ¬ κ (g d ix) < κ (g d (ix + 1)) := fun h => (of_decide_eq_false ht) (cmpS_neg.2 h)
      rw [hixn] at this
      exact Int.not_lt.1 this
  · have g5 : ¬ (ch : Int) + 1 < hi := by omega
    simp [pickV, g5, wrap_i64 (a := (ch : Int) + 1) (by omega)]
    exact hK2 false (fun h => by cases h) (fun _ h => absurd h hc1)
end Go.Proofs.YtmlhekfkniibmaaDoor.Ord

/- Sorting numbers (Heap2). -/
namespace Go.Proofs.YtmlhekfkniibmaaDoor.Ord
open Go Go.Proofs.YtmlhekfkniibmaaDoor.AX Go.Proofs.YtmlhekfkniibmaaDoor
variable {sb : Bool}

set_option maxRecDepth 100000 in
theorem heapSort_ac (D : Int → Prop) (κ : Int → Int) (r ver a l : Nat) (c : List Int) (H : AH) (Q : AV → AH → Prop) (hC : CmpO D κ r H) (hr : Rw r ver H c) (hD : All D c) (hl : c.length ≤ 1000000) (hb : a + l ≤ c.length) (hl1 : 1 ≤ l)
    (h : ∀ (H' : AH) (m : List Int), Shuf a (a + l) c m → Srt κ a (a + l) m → Rw r ver H' m → KeepX r H H' → Q (.tuple []) H') : AC Tryd.prog 71 [SV sb r 0 c.length ver, .int .i64 a, .int .i64 (a + l : Nat)] H Q := by
  refine L_body 56 Tryd.func71 rfl rfl ?_
  refine L_reg [0, 1, 2, 6] (fun K hK => ?_)
  simp
  apply hK; clear hK K
  refine L_reg [0, 1, 2, 6, 7] (fun K hK => ?_)
  simp
  apply hK; clear hK K
  refine L_reg [0, 6, 7, 8] (fun K hK => ?_)
  simp [show ((a : Int) + l - a) = l by omega, wrap_i64 (a := (l : Int)) (by omega)]
  apply hK; clear hK K
  obtain ⟨l0, rfl⟩ : ∃ l0, l = l0 + 1 := ⟨l - 1, by omega⟩
  generalize hL : l0 + 1 = L at *
  have hdiv : ((l0 : Int)).tdiv 2 = ((l0 / 2 : Nat) : Int) := by rw [Int.tdiv_eq_ediv_of_nonneg (by omega)]; rfl
  obtain ⟨q, hq⟩ : ∃ q, q = l0 / 2 := ⟨_, rfl⟩
  rw [← hq] at hdiv
  have hL1 : (L : Int) - 1 = l0 := by omega
  refine L_reg [0, 6, 7, 8, 9] (fun K hK => ?_)
  simp [hL1, hdiv, wrap_i64 (a := (l0 : Int)) (by omega), wrap_i64 (a := (q : Int)) (by omega)]
  apply hK; clear hK K
  generalize hn : c.length = n at *
  refine L_blockR (fun e' H' => ∃ (d : List Int) (v11 v21 : AV), Shuf a (a + L) c d ∧ (∀ i, Hp κ a L d i) ∧ Rw r ver H' d ∧ KeepX r H H' ∧ e' = [(0, SV sb r 0 n ver), (6, .int .i64 a), (7, .int .i64 0), (8, .int .i64 L), (9, v11), (19, v21)]) (L_loopV [9] (fun k vs H' => ∃ d : List Int, k ≤ q + 1 ∧ Shuf a (a + L) c d ∧ (∀ i, k ≤ i → Hp κ a L d i) ∧ vs = [.int .i64 ((k : Int) - 1)] ∧ Rw r ver H' d ∧ KeepX r H H') (q + 1) [.int .i64 q] rfl ⟨c, by omega, .refl _ _ _, fun i hi q1 q2 q3 => by omega, by simp, hr, .refl r H⟩ ?_) ?_
  · rintro k _ H1 ⟨d, hk, hS, hH, rfl, hrow, hK⟩
    have hdl : d.length = n := by rw [hS.len]; exact hn
    cases k with
    | zero =>
      refine L_reg [0, 6, 7, 8, 9, 19] (fun K hK => ?_)
      simp
      apply hK; clear hK K
      refine L_false (by simp) (L_exit ?_)
      exact ⟨d, _, _, hS, fun i => hH i (by omega), hrow, hK, rfl⟩
    | succ k =>
      have hk1 : (k : Int) + 1 - 1 = k := by omega
      refine L_reg [0, 6, 7, 8, 9, 19] (fun K hK => ?_)
      simp
      apply hK; clear hK K
      refine L_true (by simp) ?_
      refine L_block ?_
      refine L_reg [0, 6, 7, 8, 9] (fun K hK0 => ?_)
      simp [okFn_low]
      have := siftDown_ac (sb := sb) D κ r ver k L a d H1 (fun v H' => K [(0, SV sb r 0 n ver), (6, .int .i64 a), (7, .int .i64 0), (8, .int .i64 L), (9, .int .i64 k)] H') (hC.keep hK) hrow (hD.perm hS.1) (by omega) (by omega) (by omega) (fun i hi => hH i (by omega)) (fun H2 m hS2 hH2 hr2 hK2 => ?_)
      · rw [hdl] at this; exact this
      apply hK0; clear hK0 K
      refine L_reg [0, 6, 7, 8, 9] (fun K hK => ?_)
      simp [wrap_i64 (a := (k : Int) - 1) (by omega)]
      apply hK; clear hK K
      exact ⟨k, [.int .i64 ((k : Int) - 1)], by omega, by simp, m, by omega, hS.trans (hS2.wide (by omega) (by omega)), fun i hi => hH2 i hi, rfl, hr2, hK.trans hK2⟩
  rintro _ H1 ⟨d, v11, v21, hS, hH, hrow, hK, rfl⟩
  refine L_reg [0, 6, 7, 10] (fun K hK => ?_)
  simp [hL1, wrap_i64 (a := (l0 : Int)) (by omega)]
  apply hK; clear hK K
  refine L_block (L_loopV [10] (fun k vs H' => ∃ d : List Int, k ≤ L ∧ Shuf a (a + L) c d ∧ (∀ i, Hp κ a k d i) ∧ (∀ p q, p < q → k ≤ q → q < L → κ (g d (a + p)) ≤ κ (g d (a + q))) ∧ vs = [.int .i64 ((k : Int) - 1)] ∧ Rw r ver H' d ∧ KeepX r H H') L [.int .i64 l0] rfl ⟨d, Nat.le_refl _, hS, hH, fun p q h1 h2 h3 => by omega, by rw [hL1], hrow, hK⟩ ?_)
  clear hS hH hrow hK d H1
  rintro k _ H1 ⟨d, hk, hS, hH, hT, rfl, hrow, hK⟩
  have hdl : d.length = n := by rw [hS.len]; exact hn
  cases k with
  | zero =>
    refine L_reg [0, 6, 7, 10, 30] (fun K hK => ?_)
    simp
    apply hK; clear hK K
    refine L_false (by simp) (L_exit ?_)
    refine ⟨.inl rfl, _, rfl, h H1 d hS (fun p q h1 h2 h3 => ?_) hrow hK⟩
    have := hT (p - a) (q - a) (by omega) (by omega) (by omega)
    rw [show a + (p - a) = p by omega, show a + (q - a) = q by omega] at this
    exact this
  | succ k =>
    have hk1 : (k : Int) + 1 - 1 = k := by omega
    refine L_reg [0, 6, 7, 10, 30] (fun K hK => ?_)
    simp
    apply hK; clear hK K
    refine L_true (by simp) ?_
    refine L_block ?_
    obtain ⟨ib, hib⟩ : ∃ ix : Nat, (a : Int) + k = ix := ⟨a + k, by omega⟩
    have hibn : ib = a + k := by omega
    have hx := hrow.ld (i := a) (by omega)
    have hy := hrow.ld (i := ib) (by omega)
    have ga : a < n := by omega
    have gb : ib < n := by omega
    obtain ⟨H2, H3, e1, e2, e3, e4⟩ := hrow.swap (i := a) (j := ib) (by omega) (by omega)
    refine L_regT mixed [0, 6, 7, 10] (by kernel_rfl) (fun K hK => ?_)
    simp [hib, ga, gb, hx, hy, e1, e2, wrap_i64 (a := (ib : Int)) (by omega)]
    apply hK; clear hK K
    subst hibn
    have w0 := sw_i (c := d) (i := a) (j := a + k) (by omega) (by omega)
    have w1 := sw_j (c := d) (i := a) (j := a + k) (by omega) (by omega)
    have w2 := fun (k' : Nat) (k1 : k' ≠ a) (k2 : k' ≠ a + k) => sw_o (c := d) (i := a) (j := a + k) (by omega) (by omega) k1 k2
    have hmax := heap_max hH
    have hS3 : Shuf a (a + L) c (sw d a (a + k)) := hS.trans (.swap (by omega) (by omega) (by omega))
    have hl3 : (sw d a (a + k)).length = n := by rw [hS3.len]; exact hn
    have hK3 := hK.trans e4
    have hH3 : ∀ i, 0 < i → Hp κ a k (sw d a (a + k)) i := by
      intro i hi q' q1 q2
      rw [w2 _ (by omega) (by omega), w2 _ (by omega) (by omega)]
      exact hH i q' q1 (by omega)
    have hT3 : ∀ p q, p < q → k ≤ q → q < L → κ (g (sw d a (a + k)) (a + p)) ≤ κ (g (sw d a (a + k)) (a + q)) := by
      intro p q' h1 h2 h3
      by_cases e : q' = k
      · subst e
        rw [w1]
        by_cases e0 : p = 0
        · subst e0
          have := hmax q' (by omega)
          rw [Nat.add_zero] at *
          rw [w0]
          exact this
        · rw [w2 _ (by omega) (by omega)]
          exact hmax p (by omega)
      · rw [w2 (a + q') (by omega) (by omega)]
        by_cases e0 : p = 0
        · subst e0
          rw [Nat.add_zero, w0]
          exact hT k q' (by omega) (by omega) h3
        · by_cases e1 : p = k
          · subst e1
            rw [w1]
            exact hT 0 q' (by omega) (by omega) h3
          · rw [w2 (a + p) (by omega) (by omega)]
            exact hT p q' h1 (by omega) h3
    refine L_reg [0, 6, 7, 10] (fun K hK0 => ?_)
    simp [okFn_low]
    have := siftDown_ac (sb := sb) D κ r ver 0 k a (sw d a (a + k)) H3 (fun v H' => K [(0, SV sb r 0 n ver), (6, .int .i64 a), (7, .int .i64 0), (10, .int .i64 k)] H') (hC.keep hK3) e3 (hD.perm hS3.1) (by omega) (by omega) (by omega) hH3 (fun H4 m hS4 hH4 hr4 hK4 => ?_)
    · rw [hl3] at this; exact this
    apply hK0; clear hK0 K
    refine L_reg [0, 6, 7, 10] (fun K hK => ?_)
    simp [wrap_i64 (a := (k : Int) - 1) (by omega)]
    apply hK; clear hK K
    refine ⟨k, [.int .i64 ((k : Int) - 1)], by omega, by simp, m, by omega, hS3.trans (hS4.wide (by omega) (by omega)), fun i => hH4 i (by omega), fun p q' h1 h2 h3 => ?_, rfl, hr4, hK3.trans hK4⟩
    rw [hS4.2 (a + q') (by omega)]
    by_cases hp : p < k
    · have := hS4.all (by omega) (p := fun x => κ x ≤ κ (g (sw d a (a + k)) (a + q'))) (fun k' h4 h5 => by
        have := hT3 (k' - a) q' (by omega) h2 h3
        rw [show a + (k' - a) = k' by omega] at this
        exact this) (a + p) (by omega) (by omega)
      exact this
    · rw [hS4.2 (a + p) (by omega)]
      exact hT3 p q' h1 h2 h3
end Go.Proofs.YtmlhekfkniibmaaDoor.Ord

/- Sorting numbers (Brk). -/
namespace Go.Proofs.YtmlhekfkniibmaaDoor.Ord
open Go Go.Proofs.YtmlhekfkniibmaaDoor.AX Go.Proofs.YtmlhekfkniibmaaDoor
variable {sb : Bool}

set_option maxRecDepth 100000 in
theorem break_ac (r ver a l : Nat) (c : List Int) (H : AH) (Q : AV → AH → Prop) (hr : Rw r ver H c) (hrl : r < H.length) (hlen : c.length ≤ 127) (hl : 12 < l) (hb : a + l ≤ c.length)
    (h : ∀ (H' : AH) (m : List Int), Shuf a (a + l) c m → Rw r ver H' m → KeepX r H H' → Q (.tuple []) H') : AC Tryd.prog 72 [SV sb r 0 c.length ver, .int .i64 a, .int .i64 (a + l : Nat)] H Q := by
  refine L_body 65 Tryd.func72 rfl rfl ?_
  have hq : ((l : Int)).tdiv 4 = ((l / 4 : Nat) : Int) := by rw [Int.tdiv_eq_ediv_of_nonneg (by omega)]; rfl
  obtain ⟨q, hq0⟩ : ∃ q, q = l / 4 := ⟨_, rfl⟩
  rw [← hq0] at hq
  obtain ⟨j0, hj0⟩ : ∃ i : Nat, (a : Int) + (q : Int) * 2 = i := ⟨a + q * 2, by omega⟩
  obtain ⟨i0, hi0⟩ : ∃ i : Nat, (j0 : Int) - 1 = i := ⟨j0 - 1, by omega⟩
  generalize hn : c.length = n at *
  refine L_reg [0, 1, 6] (fun K hK => ?_)
  simp [show ((a : Int) + l - a) = l by omega, wrap_i64 (a := (l : Int)) (by omega)]
  apply hK; clear hK K
  refine L_reg [0, 1, 6, 15] (fun K hK => ?_)
  simp
  apply hK; clear hK K
  refine L_true (by simp; omega) ?_
  have hsv : ∀ x : Int, storeV Tryd.prog 123 (H ++ [AObj.row [.int .u64 0] 0 0 false]) (.ptr H.length 0 0) (.int .u64 x) = some (none, H ++ [.row [.int .u64 x] 0 0 false]) := fun x => store_last sc123 (y := .int .u64 0) rfl rfl
  refine L_reg [0, 1, 6, 7] (fun K hK => ?_)
  simp [cvC l (by omega), alloc_z zt123, hsv]
  apply hK; clear hK K
  have hK1 : KeepX r H (H ++ [AObj.row [.int .u64 l] 0 0 false]) := (KeepX.refl r H).ext (.push _ _)
  have hr1 := hr.ext (.push H [AObj.row [.int .u64 l] 0 0 false])
  have hx1 : (H ++ [AObj.row [.int .u64 l] 0 0 false])[H.length]? = some (.row [.int .u64 l] 0 0 false) := by simp
  generalize H ++ [AObj.row [.int .u64 l] 0 0 false] = H1 at hK1 hr1 hx1 ⊢
  generalize hp : H.length = p at *
  have hpl := pow_len (n := l) (by omega) (by omega)
  refine L_reg [0, 1, 6, 7, 8] (fun K hK => ?_)
  simp [okFn_low]
  refine nextPow_ac l H1 _ (by omega) (by omega) ?_
  generalize 2 ^ lenN l = md at hpl ⊢
  simp
  apply hK; clear hK K
  refine L_reg [0, 1, 6, 7, 8, 9] (fun K hK => ?_)
  simp [hq, wrap_i64 (a := (q : Int)) (by omega), wrap_i64 (a := (q : Int) * 2) (by omega), hj0, wrap_i64 (a := (j0 : Int)) (by omega), hi0, wrap_i64 (a := (i0 : Int)) (by omega)]
  apply hK; clear hK K
  refine L_block (L_loopV [9] (fun k vs H' => ∃ (i : Nat) (d : List Int) (x : Int) (s : Nat), k = j0 + 2 - i ∧ i0 ≤ i ∧ i ≤ j0 + 2 ∧ Shuf a (a + l) c d ∧ vs = [.int .i64 i] ∧ Rw r ver H' d ∧ KeepX r H H' ∧ H'[p]? = some (.row [.int .u64 x] 0 s false)) _ [.int .i64 i0] rfl ⟨i0, c, l, 0, rfl, by omega, by omega, .refl _ _ _, rfl, hr1, hK1, hx1⟩ ?_)
  clear hr1 hK1 hx1 H1
  rintro k _ H1 ⟨i, d, x, s, rfl, hi1, hi2, hS, rfl, hrow, hK, hx⟩
  have hdl : d.length = n := by rw [hS.len]; exact hn
  refine L_reg [0, 1, 6, 7, 8, 9, 33] (fun K hK => ?_)
  simp [hq, wrap_i64 (a := (q : Int)) (by omega), wrap_i64 (a := (q : Int) * 2) (by omega), hj0, wrap_i64 (a := (j0 : Int)) (by omega), wrap_i64 (a := (j0 : Int) + 1) (by omega)]
  apply hK; clear hK K
  refine L_dec ((i : Int) ≤ j0 + 1) (by simp) (fun hlt => ?_) (fun hge => L_exit ?_)
  · refine L_block ?_
    refine L_reg [0, 1, 6, 7, 8, 9, 10] (fun K hK0 => ?_)
    simp [okFn_low]
    refine next_ac p s x H1 _ hx (fun y H2 hy hK2 => ?_)
    have hmd : IntKind.u64.wrap ((md : Int) - 1) = ((md - 1 : Nat) : Int) := by rw [wrap_u64 (by omega)]; omega
    obtain ⟨m1, hm1⟩ : ∃ m1 : Nat, md - 1 = m1 := ⟨_, rfl⟩
    rw [hm1] at hmd
    obtain ⟨z, hz, hand⟩ := and_low (P := Tryd.prog) (t := 85) (l := (litOp (.tmp 36) || litOp (.tmp 38))) y m1 (by omega)
    simp [hmd, hand, cvB z (by omega)]
    apply hK0; clear hK0 K
    have hrow2 : Rw r ver H2 d := by
      obtain ⟨s', tl', h'⟩ := hrow
      exact ⟨s', tl', hK2.row (by omega) h'⟩
    have hK12 : KeepX r H H2 := ⟨Nat.le_trans hK.1 hK2.1, fun j j1 j2 => by rw [hK2.2 j (by omega) (by have := hK.1; omega), hK.2 j j1 j2]⟩
    refine L_reg [0, 1, 6, 7, 8, 9, 10, 43] (fun K hK => ?_)
    simp
    apply hK; clear hK K
    refine L_condK [0, 1, 6, 7, 8, 9, 10] (fun e' H' => ∃ o : Nat, o < l ∧ e' = [(0, SV sb r 0 n ver), (1, .int .i64 a), (6, .int .i64 l), (7, .ptr p 0 0), (8, .int .u64 md), (9, .int .i64 i), (10, .int .i64 (o : Nat))] ∧ H2 = H') (t := decide (l ≤ z)) (by simp) (fun ht => ?_) (fun ht => ?_) ?_
    · have hle : l ≤ z := of_decide_eq_true ht
      obtain ⟨o, ho⟩ : ∃ o : Nat, (z : Int) - l = o := ⟨z - l, by omega⟩
      refine L_reg [0, 1, 6, 7, 8, 9, 10] (fun K hK => ?_)
      simp [ho, wrap_i64 (a := (o : Int)) (by omega)]
      apply hK; clear hK K
      exact ⟨o, by omega, by simp, rfl⟩
    · exact ⟨z, by have := of_decide_eq_false ht; omega, by simp, rfl⟩
    rintro _ _ ⟨o, hol, rfl, rfl⟩
    obtain ⟨ib, hib⟩ : ∃ ix : Nat, (a : Int) + o = ix := ⟨a + o, by omega⟩
    have h1 := hrow2.ld (i := i) (by omega)
    have h2 := hrow2.ld (i := ib) (by omega)
    have ga : i < n := by omega
    have gb : ib < n := by omega
    obtain ⟨H3, H4, e1, e2, e3, e4⟩ := hrow2.swap (i := i) (j := ib) (by omega) (by omega)
    refine L_regT mixed [0, 1, 6, 7, 8, 9] (by kernel_rfl) (fun K hK => ?_)
    simp [hib, ga, gb, h1, h2, e1, e2, wrap_i64 (a := (ib : Int)) (by omega)]
    apply hK; clear hK K
    refine L_reg [0, 1, 6, 7, 8, 9] (fun K hK => ?_)
    simp [wrap_i64 (a := (i : Int) + 1) (by omega)]
    apply hK; clear hK K
    exact ⟨j0 + 2 - (i + 1), [.int .i64 (i + 1 : Nat)], by omega, by simp, i + 1, _, y, 0, rfl, by omega, by omega, hS.trans (.swap (by omega) (by omega) (by omega)), rfl, e3, hK12.trans e4, e4.row (by omega) hy⟩
  · exact ⟨.inl rfl, _, rfl, h H1 d hS hrow hK⟩
end Go.Proofs.YtmlhekfkniibmaaDoor.Ord
