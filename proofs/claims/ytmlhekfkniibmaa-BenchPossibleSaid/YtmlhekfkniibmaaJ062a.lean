/- Joined texts: Base, TF, Works, Perm, Seats, App, Orders, Refs, Pub, Cnt, Same, Lcm, Chk, Rem, LoopK, Crt, WCounts. -/
import Derived.Test.YtmlhekfkniibmaaChecked
import Derived.Test.YtmlhekfkniibmaaAxQ
import Derived.Test.YtmlhekfkniibmaaAxR
/- What is run, and what is kept between its statements. -/
namespace Go.Proofs.Ytmlhekfkniibmaa
open Go Go.Proofs.Ytmlhekfkniibmaa.AX Go.RowKit
set_option maxRecDepth 100000

def keepT (f : Nat) : List Nat :=
  bif Nat.ble f 55 then bif Nat.ble f 27 then bif Nat.ble f 13 then bif Nat.ble f 6 then bif Nat.ble f 3 then bif Nat.ble f 1 then bif Nat.ble f 0 then [] else [] else bif Nat.ble f 2 then [] else [0, 1, 2, 6, 7, 8, 9, 10, 11, 12, 13, 14, 15, 16, 59] else bif Nat.ble f 5 then bif Nat.ble f 4 then [0, 1, 2, 6, 7, 8, 9, 10, 11, 12, 13, 14] else [0, 2, 3, 4, 5, 6, 7, 8, 9, 10, 13] else [0, 1, 2, 6, 7, 8, 9, 10, 11, 12, 13, 14, 17] else bif Nat.ble f 10 then bif Nat.ble f 8 then bif Nat.ble f 7 then [0, 2, 3, 4, 5, 6, 7, 8, 9, 11, 12, 13, 14, 15, 16, 17, 35, 39, 79, 86] else [0, 1, 4, 5, 6, 7, 8, 9, 10, 11, 12, 13, 14, 15, 16, 17, 18, 19, 20, 21, 23, 69, 70, 71, 72, 73, 125, 131, 132, 133, 134, 143] else bif Nat.ble f 9 then [0, 1, 4, 5, 6, 7, 8, 9, 10, 11, 12, 13, 14, 15, 16, 101, 102, 103, 104, 105, 111] else [0, 1, 4, 5, 6, 7, 8, 9, 10, 11, 12, 13, 14, 15, 16, 17, 18, 19, 38, 76, 77, 78, 79, 92, 125, 126, 127, 128, 129, 139] else bif Nat.ble f 12 then bif Nat.ble f 11 then [0, 1, 2, 6, 7, 8, 9, 10, 11, 12, 13, 14, 15, 16, 17, 18, 19, 20, 21, 22, 24, 33, 34, 35, 41, 68, 71, 72, 73, 82, 112, 117, 118, 119, 120, 134, 158, 160] else [0, 1, 2, 4, 5, 6, 7, 8, 9, 10, 11, 12, 14, 15, 16, 17, 18, 19, 20, 22, 23, 24, 25, 26, 28] else [0, 1, 4, 5, 6, 11] else bif Nat.ble f 20 then bif Nat.ble f 17 then bif Nat.ble f 15 then bif Nat.ble f 14 then [0, 1, 4, 5, 6, 11] else [0, 1, 4, 5, 6, 11] else bif Nat.ble f 16 then [0, 1, 4, 5, 6, 11] else [0, 1, 4, 5, 10, 14, 25] else bif Nat.ble f 19 then bif Nat.ble f 18 then [0, 1, 2, 6, 7, 8, 14] else [0, 1, 2, 6, 7, 8, 20, 22] else [0, 1, 2, 6, 7, 8, 14] else bif Nat.ble f 24 then bif Nat.ble f 22 then bif Nat.ble f 21 then [0, 1, 2, 6, 7, 8, 20, 22] else [0, 1, 2, 3, 4, 5, 6, 7, 8, 9, 10, 11, 12, 13, 14, 15, 16, 62] else bif Nat.ble f 23 then [0, 1, 2, 6, 7, 8, 14] else [0, 1, 2, 6, 7, 8, 9, 10, 22, 24, 31, 45] else bif Nat.ble f 26 then bif Nat.ble f 25 then [0, 2, 3, 6] else [0, 2, 3, 6] else [0, 2, 3, 4, 8] else bif Nat.ble f 41 then bif Nat.ble f 34 then bif Nat.ble f 31 then bif Nat.ble f 29 then bif Nat.ble f 28 then [0, 2, 3, 4, 8] else [0, 2, 3, 4, 5, 6, 10, 19] else bif Nat.ble f 30 then [0, 2, 3, 4, 5, 6, 7, 8, 9, 13, 20, 36, 44] else [0, 2, 3, 4, 8, 9, 10, 11, 12, 20, 26] else bif Nat.ble f 33 then bif Nat.ble f 32 then [0, 2, 3, 7, 11, 22, 31] else [0, 1, 2, 3, 4, 5, 8, 12] else [0, 1, 4, 5, 6, 9, 14, 16, 27] else bif Nat.ble f 38 then bif Nat.ble f 36 then bif Nat.ble f 35 then [0, 1, 2, 3, 4, 5, 6, 11] else [0, 1, 4, 5, 6, 7, 8, 9, 10, 13, 17, 27, 41, 43, 52, 65] else bif Nat.ble f 37 then [0, 2, 3, 4, 5, 8, 18] else [0, 1, 4, 5, 6, 7, 14, 15, 16, 17, 18, 19, 27] else bif Nat.ble f 40 then bif Nat.ble f 39 then [0, 1, 2, 3, 4, 6, 7, 8, 9, 10, 11, 12, 13, 14, 15, 16, 17, 18, 19, 23, 24, 25, 26, 31, 61, 65, 78, 79, 80, 81, 107, 108, 109, 110, 116, 117, 118, 119, 125] else [0, 1, 4] else [0, 2] else bif Nat.ble f 48 then bif Nat.ble f 45 then bif Nat.ble f 43 then bif Nat.ble f 42 then [0, 1, 2, 6, 7, 16] else [0, 2] else bif Nat.ble f 44 then [0, 1, 4, 15] else [0, 1, 4, 5, 6, 10, 11, 12] else bif Nat.ble f 47 then bif Nat.ble f 46 then [0, 1, 4, 12] else [0, 1, 4, 5, 6, 7, 12] else [0, 1, 4] else bif Nat.ble f 52 then bif Nat.ble f 50 then bif Nat.ble f 49 then [0, 1, 2, 6, 7, 12, 17] else [0, 1, 4, 5, 7, 8, 9, 16] else bif Nat.ble f 51 then [0, 1, 2, 6] else [0, 1, 4, 5, 9, 17] else bif Nat.ble f 54 then bif Nat.ble f 53 then [0, 1, 2, 6, 7, 8, 9, 10, 13, 14, 15, 30] else [0, 2, 3, 4, 7] else [0, 1, 4, 5] else bif Nat.ble f 83 then bif Nat.ble f 69 then bif Nat.ble f 62 then bif Nat.ble f 59 then bif Nat.ble f 57 then bif Nat.ble f 56 then [0, 2] else [0, 2, 3, 4, 5, 6, 7] else bif Nat.ble f 58 then [0, 2, 3, 4, 5, 8, 15] else [0, 2, 3, 4, 5, 6, 7, 14, 15, 16, 17] else bif Nat.ble f 61 then bif Nat.ble f 60 then [0, 2, 3, 4, 5, 6, 13] else [0, 2, 3, 4, 5, 6, 7, 8, 9, 10, 11, 12, 13, 28, 34] else [0, 1, 4] else bif Nat.ble f 66 then bif Nat.ble f 64 then bif Nat.ble f 63 then [0, 2, 3, 4, 5, 6, 7, 13] else [0, 1, 2, 4] else bif Nat.ble f 65 then [0, 1, 4, 5, 6, 9, 10, 11, 12, 13, 20, 31] else [0, 1, 2, 4] else bif Nat.ble f 68 then bif Nat.ble f 67 then [0, 1, 2, 6, 7] else [0, 2, 4, 8] else [0, 2, 4, 8, 14] else bif Nat.ble f 76 then bif Nat.ble f 73 then bif Nat.ble f 71 then bif Nat.ble f 70 then [0, 2, 3, 4, 7, 8, 9] else [0, 1, 4, 5, 6] else bif Nat.ble f 72 then [0, 1, 4] else [0, 1, 4, 5, 7, 8, 9, 16] else bif Nat.ble f 75 then bif Nat.ble f 74 then [0, 1, 2, 6] else [0, 1, 4, 5, 10] else [0, 2] else bif Nat.ble f 80 then bif Nat.ble f 78 then bif Nat.ble f 77 then [0, 1, 4, 5, 10, 12, 13, 14, 24] else [0, 2, 3, 9] else bif Nat.ble f 79 then [0, 1, 2, 3, 8, 9, 10, 11, 12, 13, 14, 15, 16, 17, 18, 23, 29, 35, 50, 68, 72, 87, 113] else [0, 1, 2, 6, 7, 12, 30] else bif Nat.ble f 82 then bif Nat.ble f 81 then [0, 1, 2, 6, 7, 8, 9, 10, 19, 30] else [0, 1, 2, 6, 7, 8, 9, 10, 15, 33, 43] else [0, 1, 2, 6, 7, 8, 9, 10, 11, 12, 32, 34, 49, 51, 54] else bif Nat.ble f 97 then bif Nat.ble f 90 then bif Nat.ble f 87 then bif Nat.ble f 85 then bif Nat.ble f 84 then [0, 1, 2, 6, 7, 13] else [0, 1, 2, 6, 7, 8, 9, 10, 14, 32, 37, 41, 61, 65, 78, 98, 103, 116] else bif Nat.ble f 86 then [0, 1, 4] else [0, 1, 2, 3, 8, 9, 10, 43, 59, 64] else bif Nat.ble f 89 then bif Nat.ble f 88 then [0, 1, 2, 3, 8, 9, 10, 11, 43, 60, 65, 112, 129, 134] else [0, 1, 2, 3, 8, 9, 16, 36, 52] else [0, 2] else bif Nat.ble f 94 then bif Nat.ble f 92 then bif Nat.ble f 91 then [0, 2] else [0, 1, 2, 6] else bif Nat.ble f 93 then [0, 1, 2, 3, 4, 10] else [0, 2] else bif Nat.ble f 96 then bif Nat.ble f 95 then [0, 1, 2, 3, 8, 9, 18] else [] else [] else bif Nat.ble f 104 then bif Nat.ble f 101 then bif Nat.ble f 99 then bif Nat.ble f 98 then [] else [] else bif Nat.ble f 100 then [] else [] else bif Nat.ble f 103 then bif Nat.ble f 102 then [] else [] else [] else bif Nat.ble f 108 then bif Nat.ble f 106 then bif Nat.ble f 105 then [] else [] else bif Nat.ble f 107 then [] else [] else bif Nat.ble f 110 then bif Nat.ble f 109 then [] else [] else []

def goodT (f : Nat) : Bool := Nat.ble 3 f && Nat.ble f 95 && !(Nat.beq f 39)

noncomputable def cx : Cx Try.prog where
  good := goodT
  keep := keepT
  ext _ _ _ := none

theorem okAll : (List.range 96).all (fun f => !(Nat.ble 3 f) || okFn Try.prog f) = true := by kernel_rfl
theorem okFn_low {f : Nat} (h3 : 3 ≤ f) (h : f ≤ 95) : okFn Try.prog f = true := by
  have := (List.all_eq_true.1 okAll) f (List.mem_range.2 (by omega))
  have h1 : Nat.ble 3 f = true := Nat.ble_eq_true_of_le h3
  simpa [h1] using this

theorem goodAll : (List.range 96).all (fun f => !goodT f || fnOrd Try.prog f) = true := by kernel_rfl

theorem cx_ok : cx.Ok where
  mixed := by kernel_rfl
  ord f h := by
    have hlt : f < 96 := by
      have h1 : Nat.ble f 95 = true := by
        simp only [cx, goodT, Bool.and_eq_true] at h
        exact h.1.2
      exact Nat.lt_succ_of_le (Nat.le_of_ble_eq_true h1)
    have := (List.all_eq_true.1 goodAll) f (List.mem_range.2 hlt)
    have hg : goodT f = true := h
    rw [hg] at this
    simpa using this
  ext f args H v H' h := by cases h
theorem mixed : Try.prog.follows .mixedOrders = true := by kernel_rfl
end Go.Proofs.Ytmlhekfkniibmaa

/- What the steps ask of the types of this program. -/
namespace Go.Proofs.Ytmlhekfkniibmaa
open Go Go.Proofs.Ytmlhekfkniibmaa.AX
@[simp] theorem ld3 (H : AH) (r off ver : Nat) : loadV Try.prog 3 H (.ptr r off ver) = ld H r off ver := ld_sc (by kernel_rfl) ..
theorem sc3 : scal Try.prog 3 = true := by kernel_rfl
theorem zt3 : zeroT Try.prog 3 = some [.int .i64 0] := by kernel_rfl
@[simp] theorem ld4 (H : AH) (r off ver : Nat) : loadV Try.prog 4 H (.ptr r off ver) = ld H r off ver := ld_sc (by kernel_rfl) ..
theorem sc4 : scal Try.prog 4 = true := by kernel_rfl
theorem zt4 : zeroT Try.prog 4 = some [.bool false] := by kernel_rfl
@[simp] theorem ld9 (H : AH) (r off ver : Nat) : loadV Try.prog 9 H (.ptr r off ver) = ld H r off ver := ld_sc (by kernel_rfl) ..
theorem sc9 : scal Try.prog 9 = true := by kernel_rfl
theorem zt9 : zeroT Try.prog 9 = some [.str []] := by kernel_rfl
@[simp] theorem ld22 (H : AH) (r off ver : Nat) : loadV Try.prog 22 H (.ptr r off ver) = ld H r off ver := ld_sc (by kernel_rfl) ..
theorem sc22 : scal Try.prog 22 = true := by kernel_rfl
theorem slz22 : slSz Try.prog 22 = some 1 := by kernel_rfl
@[simp] theorem len22 (r : Option Nat) (off len ver sz : Nat) (full : Bool) : aLen Try.prog 22 (.slice r off len ver sz full) = some (.int .i64 len) := len_sl slz22 ..
@[simp] theorem lenp22 (r off len ver sz : Nat) : aLen Try.prog 22 (.part r off len ver sz) = some (.int .i64 len) := len_part slz22 ..
@[simp] theorem ixa22 (r off len ver : Nat) (full : Bool) (k : IntKind) (i : Int) : aIndexAddr Try.prog 22 (.slice (some r) off len ver 1 full) (.int k i) = if 0 ≤ i ∧ i < len then some (.ptr r (off + i.toNat * 1) ver) else none := ixa_sl slz22 ..
@[simp] theorem ixap22 (r off len ver : Nat) (k : IntKind) (i : Int) : aIndexAddr Try.prog 22 (.part r off len ver 1) (.int k i) = if 0 ≤ i ∧ i < len then some (.ptr r (off + i.toNat * 1) ver) else none := ixa_part slz22 ..
theorem el22 : elT Try.prog 22 = true := by kernel_rfl
theorem elz22 : elZ Try.prog 22 = some (.int .i64 0) := by kernel_rfl
@[simp] theorem row22 (H : AH) (b : Int) : rowV Try.prog 22 1 [(0, .int .i64 b)] H = some (some (.slice (some H.length) 0 1 0 1 false), H ++ [.row [.int .i64 b] 0 1 false]) := row1 el22 rfl rfl
theorem zt22 : zeroT Try.prog 22 = some [.slice none 0 0 0 1 false] := by kernel_rfl
@[simp] theorem ld40 (H : AH) (r off ver : Nat) : loadV Try.prog 40 H (.ptr r off ver) = ld H r off ver := ld_sc (by kernel_rfl) ..
theorem sc40 : scal Try.prog 40 = true := by kernel_rfl
theorem zt40 : zeroT Try.prog 40 = some [.nilmap] := by kernel_rfl
theorem ar43 : arSz Try.prog 43 = some (6, 1) := by kernel_rfl
@[simp] theorem ixa43 (r off ver : Nat) (k : IntKind) (i : Int) : aIndexAddr Try.prog 43 (.ptr r off ver) (.int k i) = if 0 ≤ i ∧ i < (6 : Nat) then some (.ptr r (off + i.toNat * 1) ver) else none := ixa_ar ar43 ..
theorem ag43 : aggSz Try.prog 43 = some 6 := by kernel_rfl
@[simp] theorem ld43 (H : AH) (r off ver : Nat) : loadV Try.prog 43 H (.ptr r off ver) = (ldn H r ver 6 off).map .agg := load_agg ag43 ..
theorem zt43 : zeroT Try.prog 43 = some [.int .i64 0, .int .i64 0, .int .i64 0, .int .i64 0, .int .i64 0, .int .i64 0] := by kernel_rfl
@[simp] theorem ld44 (H : AH) (r off ver : Nat) : loadV Try.prog 44 H (.ptr r off ver) = ld H r off ver := ld_sc (by kernel_rfl) ..
theorem sc44 : scal Try.prog 44 = true := by kernel_rfl
theorem zt44 : zeroT Try.prog 44 = some [.nilfunc] := by kernel_rfl
@[simp] theorem ld48 (H : AH) (r off ver : Nat) : loadV Try.prog 48 H (.ptr r off ver) = ld H r off ver := ld_sc (by kernel_rfl) ..
theorem sc48 : scal Try.prog 48 = true := by kernel_rfl
theorem zt48 : zeroT Try.prog 48 = some [.int .u32 0] := by kernel_rfl
@[simp] theorem ld50 (H : AH) (r off ver : Nat) : loadV Try.prog 50 H (.ptr r off ver) = ld H r off ver := ld_sc (by kernel_rfl) ..
theorem sc50 : scal Try.prog 50 = true := by kernel_rfl
theorem zt50 : zeroT Try.prog 50 = some [.int .u64 0] := by kernel_rfl
@[simp] theorem ld63 (H : AH) (r off ver : Nat) : loadV Try.prog 63 H (.ptr r off ver) = ld H r off ver := ld_sc (by kernel_rfl) ..
theorem sc63 : scal Try.prog 63 = true := by kernel_rfl
theorem zt63 : zeroT Try.prog 63 = some [.nilfunc] := by kernel_rfl
@[simp] theorem ld70 (H : AH) (r off ver : Nat) : loadV Try.prog 70 H (.ptr r off ver) = ld H r off ver := ld_sc (by kernel_rfl) ..
theorem sc70 : scal Try.prog 70 = true := by kernel_rfl
theorem slz70 : slSz Try.prog 70 = some 1 := by kernel_rfl
@[simp] theorem len70 (r : Option Nat) (off len ver sz : Nat) (full : Bool) : aLen Try.prog 70 (.slice r off len ver sz full) = some (.int .i64 len) := len_sl slz70 ..
@[simp] theorem lenp70 (r off len ver sz : Nat) : aLen Try.prog 70 (.part r off len ver sz) = some (.int .i64 len) := len_part slz70 ..
@[simp] theorem ixa70 (r off len ver : Nat) (full : Bool) (k : IntKind) (i : Int) : aIndexAddr Try.prog 70 (.slice (some r) off len ver 1 full) (.int k i) = if 0 ≤ i ∧ i < len then some (.ptr r (off + i.toNat * 1) ver) else none := ixa_sl slz70 ..
@[simp] theorem ixap70 (r off len ver : Nat) (k : IntKind) (i : Int) : aIndexAddr Try.prog 70 (.part r off len ver 1) (.int k i) = if 0 ≤ i ∧ i < len then some (.ptr r (off + i.toNat * 1) ver) else none := ixa_part slz70 ..
theorem el70 : elT Try.prog 70 = true := by kernel_rfl
theorem elz70 : elZ Try.prog 70 = some (.bool false) := by kernel_rfl
theorem zt70 : zeroT Try.prog 70 = some [.slice none 0 0 0 1 false] := by kernel_rfl
@[simp] theorem ld73 (H : AH) (r off ver : Nat) : loadV Try.prog 73 H (.ptr r off ver) = ld H r off ver := ld_sc (by kernel_rfl) ..
theorem sc73 : scal Try.prog 73 = true := by kernel_rfl
theorem zt73 : zeroT Try.prog 73 = some [.int .u64 0] := by kernel_rfl
@[simp] theorem ld74 (H : AH) (r off ver : Nat) : loadV Try.prog 74 H (.ptr r off ver) = ld H r off ver := ld_sc (by kernel_rfl) ..
theorem sc74 : scal Try.prog 74 = true := by kernel_rfl
theorem slz74 : slSz Try.prog 74 = some 1 := by kernel_rfl
@[simp] theorem len74 (r : Option Nat) (off len ver sz : Nat) (full : Bool) : aLen Try.prog 74 (.slice r off len ver sz full) = some (.int .i64 len) := len_sl slz74 ..
@[simp] theorem lenp74 (r off len ver sz : Nat) : aLen Try.prog 74 (.part r off len ver sz) = some (.int .i64 len) := len_part slz74 ..
@[simp] theorem ixa74 (r off len ver : Nat) (full : Bool) (k : IntKind) (i : Int) : aIndexAddr Try.prog 74 (.slice (some r) off len ver 1 full) (.int k i) = if 0 ≤ i ∧ i < len then some (.ptr r (off + i.toNat * 1) ver) else none := ixa_sl slz74 ..
@[simp] theorem ixap74 (r off len ver : Nat) (k : IntKind) (i : Int) : aIndexAddr Try.prog 74 (.part r off len ver 1) (.int k i) = if 0 ≤ i ∧ i < len then some (.ptr r (off + i.toNat * 1) ver) else none := ixa_part slz74 ..
theorem el74 : elT Try.prog 74 = true := by kernel_rfl
theorem elz74 : elZ Try.prog 74 = some (.int .i64 0) := by kernel_rfl
@[simp] theorem row74 (H : AH) (b : Int) : rowV Try.prog 74 1 [(0, .int .i64 b)] H = some (some (.slice (some H.length) 0 1 0 1 false), H ++ [.row [.int .i64 b] 0 1 false]) := row1 el74 rfl rfl
theorem zt74 : zeroT Try.prog 74 = some [.slice none 0 0 0 1 false] := by kernel_rfl
@[simp] theorem ld86 (H : AH) (r off ver : Nat) : loadV Try.prog 86 H (.ptr r off ver) = ld H r off ver := ld_sc (by kernel_rfl) ..
theorem sc86 : scal Try.prog 86 = true := by kernel_rfl
theorem zt86 : zeroT Try.prog 86 = some [.int .u64 0] := by kernel_rfl
@[simp] theorem ld90 (H : AH) (r off ver : Nat) : loadV Try.prog 90 H (.ptr r off ver) = ld H r off ver := ld_sc (by kernel_rfl) ..
theorem sc90 : scal Try.prog 90 = true := by kernel_rfl
theorem zt90 : zeroT Try.prog 90 = some [.nilptr] := by kernel_rfl
@[simp] theorem cv3_50 (k : IntKind) (n : Int) : aConv Try.prog 3 50 (.int k n) = some (.int .u64 (IntKind.u64.wrap n)) := cv_int (by kernel_rfl) (by kernel_rfl) n
@[simp] theorem cv3_86 (k : IntKind) (n : Int) : aConv Try.prog 3 86 (.int k n) = some (.int .u64 (IntKind.u64.wrap n)) := cv_int (by kernel_rfl) (by kernel_rfl) n
@[simp] theorem cv5_3 (k : IntKind) (n : Int) : aConv Try.prog 5 3 (.int k n) = some (.int .i64 (IntKind.i64.wrap n)) := cv_int (by kernel_rfl) (by kernel_rfl) n
@[simp] theorem cv48_3 (k : IntKind) (n : Int) : aConv Try.prog 48 3 (.int k n) = some (.int .i64 (IntKind.i64.wrap n)) := cv_int (by kernel_rfl) (by kernel_rfl) n
@[simp] theorem cv48_5 (k : IntKind) (n : Int) : aConv Try.prog 48 5 (.int k n) = some (.int .u8 (IntKind.u8.wrap n)) := cv_int (by kernel_rfl) (by kernel_rfl) n
@[simp] theorem cv50_3 (k : IntKind) (n : Int) : aConv Try.prog 50 3 (.int k n) = some (.int .i64 (IntKind.i64.wrap n)) := cv_int (by kernel_rfl) (by kernel_rfl) n
@[simp] theorem cv50_48 (k : IntKind) (n : Int) : aConv Try.prog 50 48 (.int k n) = some (.int .u32 (IntKind.u32.wrap n)) := cv_int (by kernel_rfl) (by kernel_rfl) n
@[simp] theorem cv73_5 (k : IntKind) (n : Int) : aConv Try.prog 73 5 (.int k n) = some (.int .u8 (IntKind.u8.wrap n)) := cv_int (by kernel_rfl) (by kernel_rfl) n
end Go.Proofs.Ytmlhekfkniibmaa

/- The examples that each law ends with. -/
namespace Go.Proofs.Ytmlhekfkniibmaa
open Go Go.Proofs.Ytmlhekfkniibmaa.AX
set_option maxRecDepth 100000
theorem works_run : callN (runZ cx 3000) 22 [] [] = some (.bool true, []) := by kernel_rfl
theorem works_ac (H : AH) (Q : AV → AH → Prop) (h : Q (.bool true) H) : AC Try.prog 22 [] H Q := AC_kernZ cx_ok 3000 works_run .nil (.bool _) h
/-- The same context, in which the examples are known. -/
noncomputable def cxw : Cx Try.prog where
  good := goodT
  keep := keepT
  ext f args H := bif Nat.beq f 22 then (match args with | [] => some (.bool true, H) | _ => none) else none
theorem cxw_ok : cxw.Ok where
  mixed := cx_ok.mixed
  ord f h := cx_ok.ord f h
  ext f args H v H' h := by
    simp only [cxw] at h
    cases hf : Nat.beq f 22 with
    | false => rw [hf] at h; cases h
    | true =>
      have := Nat.eq_of_beq_eq_true hf
      subst this
      rw [hf] at h
      cases args with
      | nil => simp at h; obtain ⟨rfl, rfl⟩ := h; exact works_ac _ _ ⟨rfl, rfl⟩
      | cons a l => simp at h
end Go.Proofs.Ytmlhekfkniibmaa

/- Lists that are mixed between two places. -/
namespace Go.Proofs.Ytmlhekfkniibmaa
open Go Go.Proofs.Ytmlhekfkniibmaa.AX

/-- What a temporary that is called calls. -/
def callW (P : Program) (v : AV) (xs : List AV) : Option (FuncId × List AV) := match v with
  | .func (.func f) first cap => if okFn P f then some (f, first ++ xs ++ cap) else none
  | _ => none
@[simp] theorem callW_f {P : Program} {f : FuncId} {first cap xs : List AV} : callW P (.func (.func f) first cap) xs = if okFn P f then some (f, first ++ xs ++ cap) else none := rfl
@[simp] theorem opcall_tmp {P : Program} {e : Env} {t : Tmp} {xs : Array Operand} {ts : Array TypeId} : opCall P (oval e) (.call ⟨.value (.tmp t), xs, ts⟩) = callW P (eget e t) (xs.toList.map (oval e)) := by
  simp only [opCall, oval, callW]
  cases eget e t <;> rfl

/-- All rows but one are as they were. -/
def KeepX (r : Nat) (H H' : AH) : Prop := H.length ≤ H'.length ∧ ∀ j : Nat, j ≠ r → j < H.length → H'[j]? = H[j]?
theorem KeepX.refl (r : Nat) (H : AH) : KeepX r H H := ⟨Nat.le_refl _, fun _ _ _ => rfl⟩
theorem KeepX.ext {r : Nat} {A B C : AH} (h : KeepX r A B) (k : Ext B C) : KeepX r A C := ⟨Nat.le_trans h.1 k.1, fun j h1 h2 => by rw [k.2 j (by have := h.1; omega), h.2 j h1 h2]⟩
theorem KeepX.set {r : Nat} {A B : AH} (h : KeepX r A B) (o : AObj) : KeepX r A (B.set r o) := ⟨by simpa using h.1, fun j h1 h2 => by rw [List.getElem?_set_ne (Ne.symm h1), h.2 j h1 h2]⟩
theorem KeepX.row {r : Nat} {H H' : AH} (h : KeepX r H H') {j : Nat} {o : AObj} (hj : j ≠ r) (ho : H[j]? = some o) : H'[j]? = some o := by
  rw [h.2 j hj (List.getElem?_eq_some_iff.1 ho).1]; exact ho
theorem KeepX.trans {r : Nat} {A B C : AH} (h : KeepX r A B) (k : KeepX r B C) : KeepX r A C := ⟨Nat.le_trans h.1 k.1, fun j h1 h2 => by rw [k.2 j h1 (by have := h.1; omega), h.2 j h1 h2]⟩

/-! ### Lists -/
def g (c : List Int) (i : Nat) : Int := c.getD i 0
theorem g_lt {c : List Int} {i : Nat} (h : i < c.length) : g c i = c[i] := by simp [g, List.getD_eq_getElem?_getD, h]
def sw (c : List Int) (i j : Nat) : List Int := (c.set i (g c j)).set j (g c i)
theorem sw_len (c : List Int) (i j : Nat) : (sw c i j).length = c.length := by simp [sw]
theorem g_sw {c : List Int} {i j : Nat} (hi : i < c.length) (hj : j < c.length) (k : Nat) : g (sw c i j) k = if k = j then g c i else if k = i then g c j else g c k := by
  unfold sw
  unfold g
  simp only [List.getD_eq_getElem?_getD, List.getElem?_set, List.length_set]
  by_cases h1 : k = j
  · subst h1; simp [hj]
  · by_cases h2 : k = i
    · subst h2; simp [h1, hi, Ne.symm h1]
    · simp [Ne.symm h1, Ne.symm h2, h1, h2]
theorem sw_j {c : List Int} {i j : Nat} (hi : i < c.length) (hj : j < c.length) : g (sw c i j) j = g c i := by rw [g_sw hi hj, if_pos rfl]
theorem sw_i {c : List Int} {i j : Nat} (hi : i < c.length) (hj : j < c.length) : g (sw c i j) i = g c j := by
  rw [g_sw hi hj]
  by_cases h : i = j
  · rw [if_pos h, h]
  · rw [if_neg h, if_pos rfl]
theorem sw_o {c : List Int} {i j k : Nat} (hi : i < c.length) (hj : j < c.length) (h1 : k ≠ i) (h2 : k ≠ j) : g (sw c i j) k = g c k := by rw [g_sw hi hj, if_neg h2, if_neg h1]
theorem sw_perm {c : List Int} {i j : Nat} (hi : i < c.length) (hj : j < c.length) : (sw c i j).Perm c := by
  have h := Array.swap_perm (xs := c.toArray) (i := i) (j := j) (by simpa using hi) (by simpa using hj)
  have h2 := h.toList
  simp only [Array.swap, Array.toList_set] at h2
  have e1 : g c j = c[j] := g_lt hj
  have e2 : g c i = c[i] := g_lt hi
  simpa [sw, e1, e2] using h2
/-- Mixed between a and b. -/
def Shuf (a b : Nat) (c m : List Int) : Prop := m.Perm c ∧ ∀ k, k < a ∨ b ≤ k → g m k = g c k
theorem Shuf.refl (a b : Nat) (c : List Int) : Shuf a b c c := ⟨.refl _, fun _ _ => rfl⟩
theorem Shuf.len {a b : Nat} {c m : List Int} (h : Shuf a b c m) : m.length = c.length := h.1.length_eq
theorem Shuf.trans {a b : Nat} {c d m : List Int} (h : Shuf a b c d) (k : Shuf a b d m) : Shuf a b c m := ⟨k.1.trans h.1, fun i hi => by rw [k.2 i hi, h.2 i hi]⟩
theorem Shuf.wide {a b a' b' : Nat} {c m : List Int} (h : Shuf a b c m) (h1 : a' ≤ a) (h2 : b ≤ b') : Shuf a' b' c m := ⟨h.1, fun i hi => h.2 i (by omega)⟩
theorem Shuf.swap {a b i j : Nat} {c : List Int} (hb : b ≤ c.length) (hi : a ≤ i ∧ i < b) (hj : a ≤ j ∧ j < b) : Shuf a b c (sw c i j) :=
  ⟨sw_perm (by omega) (by omega), fun k hk => by rw [g_sw (by omega) (by omega), if_neg (by omega), if_neg (by omega)]⟩
def mid (a b : Nat) (c : List Int) : List Int := (c.drop a).take (b - a)
theorem mid_mem {a b : Nat} {c : List Int} (hb : b ≤ c.length) {x : Int} : x ∈ mid a b c ↔ ∃ k, a ≤ k ∧ k < b ∧ g c k = x := by
  unfold mid
  constructor
  · intro h
    obtain ⟨i, hi, rfl⟩ := List.mem_iff_getElem.1 h
    simp at hi
    exact ⟨a + i, by omega, by omega, by rw [g_lt (by omega)]; simp⟩
  · rintro ⟨k, h1, h2, rfl⟩
    rw [g_lt (by omega)]
    exact List.mem_iff_getElem.2 ⟨k - a, by simp; omega, by simp; congr 1; omega⟩
theorem Shuf.mid {a b : Nat} {c m : List Int} (h : Shuf a b c m) (hab : a ≤ b) (hb : b ≤ c.length) : (mid a b m).Perm (mid a b c) := by
  have hl := h.len
  have split : ∀ l : List Int, l = l.take a ++ (Go.Proofs.Ytmlhekfkniibmaa.mid a b l ++ l.drop b) := by
    intro l
    unfold Go.Proofs.Ytmlhekfkniibmaa.mid
    have : l.drop b = (l.drop a).drop (b - a) := by rw [List.drop_drop]; congr 1; omega
    rw [this, List.take_append_drop, List.take_append_drop]
  have e1 : m.take a = c.take a := by
    apply List.ext_getElem (by simp [hl])
    intro i h1 h2
    simp at h1 h2
    have := h.2 i (by omega)
    rw [g_lt (by omega), g_lt (by omega)] at this
    simpa using this
  have e2 : m.drop b = c.drop b := by
    apply List.ext_getElem (by simp [hl])
    intro i h1 h2
    simp at h1 h2
    have := h.2 (b + i) (by omega)
    rw [g_lt (by omega), g_lt (by omega)] at this
    simpa using this
  have hp := h.1
  rw [split m, split c, e1, e2] at hp
  exact (List.perm_append_right_iff _).1 ((List.perm_append_left_iff _).1 hp)
/-- What holds of all between, holds of all when they are mixed. -/
theorem Shuf.all {a b : Nat} {c m : List Int} (h : Shuf a b c m) (hb : b ≤ c.length) {p : Int → Prop} (hp : ∀ k, a ≤ k → k < b → p (g c k)) : ∀ k, a ≤ k → k < b → p (g m k) := by
  intro k h1 h2
  have hm : g m k ∈ Go.Proofs.Ytmlhekfkniibmaa.mid a b m := (mid_mem (by have := h.len; omega)).2 ⟨k, h1, h2, rfl⟩
  obtain ⟨k', h3, h4, h5⟩ := (mid_mem hb).1 ((h.mid (by omega) hb).mem_iff.1 hm)
  rw [← h5]; exact hp k' h3 h4

/-! ### Rows of integers -/
def Rw (r ver : Nat) (H : AH) (c : List Int) : Prop := ∃ s, H[r]? = some (.row (c.map (.int .i64)) ver s false)
theorem Rw.ld {r ver i : Nat} {H : AH} {c : List Int} (h : Rw r ver H c) (hi : i < c.length) : AX.ld H r i ver = some (.int .i64 (g c i)) := by
  obtain ⟨s, h⟩ := h
  rw [ld_row h, g_lt hi]; simp [hi]
theorem Rw.ext {r ver : Nat} {H H' : AH} {c : List Int} (h : Rw r ver H c) (hE : Ext H H') : Rw r ver H' c := by
  obtain ⟨s, h⟩ := h
  exact ⟨s, hE.row h⟩
theorem Rw.swap {r ver i j : Nat} {H : AH} {c : List Int} (h : Rw r ver H c) (hi : i < c.length) (hj : j < c.length) :
    ∃ H1 H2, storeV Try.prog 3 H (.ptr r i ver) (.int .i64 (g c j)) = some (none, H1) ∧ storeV Try.prog 3 H1 (.ptr r j ver) (.int .i64 (g c i)) = some (none, H2) ∧ Rw r ver H2 (sw c i j) ∧ KeepX r H H2 := by
  obtain ⟨s, h⟩ := h
  have h1 := store_row (P := Try.prog) (u := 3) (p := i) sc3 (x := .int .i64 (g c j)) (y := .int .i64 c[i]) rfl h (by simp [hi])
  have e1 : (c.map (AV.int .i64)).set i (.int .i64 (g c j)) = (c.set i (g c j)).map (.int .i64) := by rw [List.map_set]
  rw [e1] at h1
  have hr1 := get_set (o' := .row ((c.set i (g c j)).map (.int .i64)) ver (min s i) false) h
  have h2 := store_row (P := Try.prog) (u := 3) (p := j) sc3 (x := .int .i64 (g c i)) (y := .int .i64 ((c.set i (g c j))[j]'(by simpa using hj))) rfl hr1 (by rw [List.getElem?_map, List.getElem?_eq_getElem (by simpa using hj)]; rfl)
  have e2 : ((c.set i (g c j)).map (AV.int .i64)).set j (.int .i64 (g c i)) = (sw c i j).map (.int .i64) := by rw [← List.map_set]; rfl
  rw [e2] at h2
  exact ⟨_, _, h1, h2, ⟨_, get_set hr1⟩, ((KeepX.refl r H).set _).set _⟩
end Go.Proofs.Ytmlhekfkniibmaa

/- Seats in a row, and how some go. -/
namespace Go.Proofs.Ytmlhekfkniibmaa
open Go Go.Proofs.Ytmlhekfkniibmaa.AX

/-- Seats: a part of a row, with or without room behind it. -/
def SV (b : Bool) (r off len ver : Nat) : AV := bif b then .clip r off len ver 1 else .slice (some r) off len ver 1 false
theorem und74 : Try.prog.underlying 74 = some (.slice 3) := by kernel_rfl
theorem und22 : Try.prog.underlying 22 = some (.slice 3) := by kernel_rfl
theorem inf3 : ∃ i, Try.prog.info? 3 = some i ∧ i.size = 1 := by
  have h := slz74
  unfold slSz at h
  rw [und74] at h
  simp only [Option.map_eq_some_iff] at h
  exact h
@[simp] theorem lenS (b : Bool) (r off len ver : Nat) : aLen Try.prog 74 (SV b r off len ver) = some (.int .i64 len) := by
  cases b
  · exact len74 ..
  · unfold aLen SV; rw [und74]; rfl
@[simp] theorem ixaS (b : Bool) (r off len ver : Nat) (k : IntKind) (i : Int) : aIndexAddr Try.prog 74 (SV b r off len ver) (.int k i) = if 0 ≤ i ∧ i < len then some (.ptr r (off + i.toNat) ver) else none := by
  cases b
  · have := ixa74 r off len ver false k i
    rw [Nat.mul_one] at this
    exact this
  · obtain ⟨ie, h1, h2⟩ := inf3
    unfold aIndexAddr SV
    rw [und74]
    simp [h1, h2]
theorem sliceS {b : Bool} {r off len ver lo hi : Nat} (h1 : lo ≤ hi) (h2 : hi ≤ len) : aSlice Try.prog 74 (SV b r off len ver) (some (.int .i64 (lo : Int))) (some (.int .i64 (hi : Int))) (some (.int .i64 (hi : Int))) = some (SV true r (off + lo) (hi - lo) ver) := by
  obtain ⟨ie, g1, g2⟩ := inf3
  have h3 : (lo : Int) ≤ (hi : Int) := by omega
  have h4 : (hi : Int) ≤ (len : Int) := by omega
  cases b <;> simp [aSlice, SV, g1, g2, aBounds, aBound, h1, h2, clipOf]
theorem sliceS0 {b : Bool} {r off len ver hi : Nat} (h2 : hi ≤ len) : aSlice Try.prog 74 (SV b r off len ver) none (some (.int .i64 (hi : Int))) (some (.int .i64 (hi : Int))) = some (SV true r off hi ver) := by
  obtain ⟨ie, g1, g2⟩ := inf3
  cases b <;> simp [aSlice, SV, g1, g2, aBounds, aBound, h2, clipOf]
theorem sliceS1 {b : Bool} {r off len ver : Nat} (h2 : 1 ≤ len) : aSlice Try.prog 74 (SV b r off len ver) (some (.int .i64 1)) (some (.int .i64 (len : Int))) (some (.int .i64 (len : Int))) = some (SV true r (off + 1) (len - 1) ver) := by
  obtain ⟨ie, g1, g2⟩ := inf3
  have h3 : (1 : Int) ≤ (len : Int) := by omega
  cases b <;> simp [aSlice, SV, g1, g2, aBounds, aBound, clipOf, h3]

set_option maxRecDepth 100000 in
/-- slices.Reverse turns a part of a row round. -/
theorem Reverse_ac (b : Bool) (r off n ver : Nat) (c : List Int) (H : AH) (Q : AV → AH → Prop) (hr : Rw r ver H c) (hl : c.length ≤ 1000000) (hc : off + n ≤ c.length)
    (h : ∀ (H' : AH) (d : List Int), d.length = c.length → (∀ x, x < c.length → g d x = if off ≤ x ∧ x < off + n then g c (2 * off + n - 1 - x) else g c x) → Rw r ver H' d → KeepX r H H' → Q (.tuple []) H') : AC Try.prog 78 [SV b r off n ver] H Q := by
  refine L_body 28 Try.func78 rfl rfl ?_
  have hw : IntKind.i64.wrap ((n : Int) - 1) = (n : Int) - 1 := wrap_i64 (by omega)
  refine L_reg [0, 2, 3] (fun K hK => ?_)
  simp [hw]
  apply hK; clear hK K
  refine L_block (L_loopV [2, 3] (fun k vs H' => ∃ (i : Nat) (d : List Int), k = n - i ∧ 2 * i ≤ n + 1 ∧ i ≤ n ∧ d.length = c.length ∧ (∀ x, x < c.length → g d x = if off ≤ x ∧ x < off + n ∧ (x < off + i ∨ off + n ≤ x + i) then g c (2 * off + n - 1 - x) else g c x) ∧ vs = [.int .i64 i, .int .i64 ((n : Int) - 1 - i)] ∧ Rw r ver H' d ∧ KeepX r H H') _ [.int .i64 0, .int .i64 ((n : Int) - 1)] rfl ⟨0, c, rfl, by omega, by omega, rfl, fun x hx => by rw [if_neg (by omega)], by simp, hr, .refl r H⟩ ?_)
  rintro k _ H1 ⟨i, d, rfl, hi, hin, hdl, hd, rfl, hrow, hK⟩
  refine L_reg [0, 2, 3, 9] (fun K hK => ?_)
  simp
  apply hK; clear hK K
  refine L_dec ((i : Int) < (n : Int) - 1 - i) (by simp) (fun hlt => ?_) (fun hge => L_exit ?_)
  · obtain ⟨j, hj⟩ : ∃ j : Nat, n = i + 1 + j := ⟨n - i - 1, by omega⟩
    have hji : (n : Int) - 1 - i = (j : Int) := by omega
    have hx := hrow.ld (i := off + i) (by omega)
    have hy := hrow.ld (i := off + j) (by omega)
    obtain ⟨H2, H3, e1, e2, e3, e4⟩ := hrow.swap (i := off + i) (j := off + j) (by omega) (by omega)
    have g1 : i < n := by omega
    have g2 : j < n := by omega
    refine L_block ?_
    rw [hji]
    refine L_regT mixed [0, 2, 3] (by kernel_rfl) (fun K hK => ?_)
    simp [g1, g2, hx, hy, e1, e2]
    apply hK; clear hK K
    refine L_reg [0, 2, 3] (fun K hK => ?_)
    simp [wrap_i64 (a := (i : Int) + 1) (by omega), wrap_i64 (a := (j : Int) - 1) (by omega)]
    apply hK; clear hK K
    refine ⟨n - (i + 1), [.int .i64 (i + 1 : Nat), .int .i64 ((n : Int) - 1 - (i + 1 : Nat))], by omega, by simp; omega, i + 1, _, rfl, by omega, by omega, by rw [sw_len]; exact hdl, fun x hx => ?_, rfl, e3, hK.trans e4⟩
    rw [g_sw (by omega) (by omega)]
    have d1 := hd (off + i) (by omega)
    have d2 := hd (off + j) (by omega)
    have d3 := hd x hx
    rw [if_neg (by omega)] at d1 d2
    by_cases x1 : x = off + j
    · subst x1
      rw [if_pos rfl, d1, if_pos (by omega)]
      congr 1; omega
    · rw [if_neg x1]
      by_cases x2 : x = off + i
      · subst x2
        rw [if_pos rfl, d2, if_pos (by omega)]
        congr 1; omega
      · rw [if_neg x2, d3]
        by_cases x3 : off ≤ x ∧ x < off + n ∧ (x < off + i ∨ off + n ≤ x + i)
        · rw [if_pos x3, if_pos (by omega)]
        · rw [if_neg x3, if_neg (by omega)]
  · refine ⟨.inl rfl, _, rfl, h _ d hdl (fun x hx => ?_) hrow hK⟩
    rw [hd x hx]
    by_cases x1 : off ≤ x ∧ x < off + n ∧ (x < off + i ∨ off + n ≤ x + i)
    · rw [if_pos x1, if_pos (by omega)]
    · rw [if_neg x1]
      by_cases x2 : off ≤ x ∧ x < off + n
      · rw [if_pos x2]; congr 1; omega
      · rw [if_neg x2]

/-- Who sits after the one at a place went, from the next one on, behind those who went. -/
def rot (l : List Int) (a : Nat) : List Int := l.drop (a + 1) ++ l.take a
theorem rot_len {l : List Int} {a : Nat} (h : a < l.length) : (rot l a).length = l.length - 1 := by simp [rot]; omega
theorem g_app (a b : List Int) (i : Nat) : g (a ++ b) i = if i < a.length then g a i else g b (i - a.length) := by
  unfold g
  simp only [List.getD_eq_getElem?_getD]
  split
  · rename_i h; rw [List.getElem?_append_left h]
  · rename_i h; rw [List.getElem?_append_right (by omega)]
theorem g_drop (l : List Int) (a i : Nat) : g (l.drop a) i = g l (a + i) := by simp [g, List.getD_eq_getElem?_getD]
theorem g_take {l : List Int} {a i : Nat} (h : i < a) : g (l.take a) i = g l i := by simp [g, List.getD_eq_getElem?_getD, List.getElem?_take_of_lt h]
theorem g_ext {a b : List Int} (h1 : a.length = b.length) (h2 : ∀ i, i < a.length → g a i = g b i) : a = b := by
  apply List.ext_getElem h1
  intro i ha hb
  have := h2 i ha
  rwa [g_lt ha, g_lt hb] at this
set_option maxRecDepth 100000 in
theorem leave_ac (b : Bool) (r ver a off n : Nat) (p l : List Int) (H : AH) (Q : AV → AH → Prop) (hr : Rw r ver H (p ++ l)) (hp : p.length = off) (hn : l.length = n) (ha : a < n) (hl : off + n ≤ 1000000)
    (h : ∀ (H' : AH), Rw r ver H' (p ++ [g l a] ++ rot l a) → KeepX r H H' → Q (SV true r (off + 1) (n - 1) ver) H') : AC Try.prog 71 [SV b r off n ver, .int .i64 a] H Q := by
  refine L_body 30 Try.func71 rfl rfl ?_
  refine L_reg [0, 1] (fun K hK => ?_)
  simp
  apply hK; clear hK K
  refine L_regT mixed [0, 5, 6] (by kernel_rfl) (fun K hK => ?_)
  simp [sliceS0 (Nat.le_of_lt ha), sliceS (lo := a) (hi := n) (Nat.le_of_lt ha) (Nat.le_refl n)]
  apply hK; clear hK K
  have hcl : (p ++ l).length = off + n := by simp; omega
  generalize hc : p ++ l = c at *
  refine L_reg [0, 6] (fun K hK => ?_)
  simp [okFn_low]
  refine Reverse_ac true r off a ver c _ _ hr (by omega) (by omega) (fun H1 d1 l1 e1 r1 k1 => ?_)
  simp
  apply hK; clear hK K
  refine L_reg [0] (fun K hK => ?_)
  simp [okFn_low]
  refine Reverse_ac true r (off + a) (n - a) ver d1 _ _ r1 (by omega) (by omega) (fun H2 d2 l2 e2 r2 k2 => ?_)
  simp
  apply hK; clear hK K
  refine L_reg [0] (fun K hK => ?_)
  simp [okFn_low]
  refine Reverse_ac b r off n ver d2 _ _ r2 (by omega) (by omega) (fun H3 d3 l3 e3 r3 k3 => ?_)
  simp
  apply hK; clear hK K
  refine L_reg [4] (fun K hK => ?_)
  simp [sliceS1 (show 1 ≤ n by omega)]
  apply hK; clear hK K
  have e : d3 = p ++ [g l a] ++ rot l a := by
    apply g_ext (by simp [rot]; omega)
    intro x hx
    rw [e3 x (by omega), List.append_assoc, g_app]
    by_cases x1 : off ≤ x
    · rw [if_pos ⟨x1, by omega⟩, if_neg (by omega), hp, e2 _ (by omega), g_app]
      have hgl : ∀ y, off ≤ y → g c y = g l (y - off) := fun y hy => by rw [← hc, g_app, if_neg (by omega), hp]
      by_cases x2 : x < off + n - a
      · rw [if_pos (by omega), e1 _ (by omega), if_neg (by omega), hgl _ (by omega)]
        by_cases x3 : x = off
        · subst x3
          rw [if_pos (by simp)]
          have : x - x = 0 := by omega
          rw [this]
          show _ = g l a
          congr 1; omega
        · rw [if_neg (by simp; omega)]
          simp only [List.length_singleton]
          unfold rot
          rw [g_app, if_pos (by simp; omega), g_drop]
          congr 1; omega
      · rw [if_neg (by omega), e1 _ (by omega), if_pos (by omega), hgl _ (by omega), if_neg (by simp; omega)]
        simp only [List.length_singleton]
        unfold rot
        rw [g_app, if_neg (by simp; omega), g_take (by simp; omega)]
        simp only [List.length_drop]
        congr 1; omega
    · rw [if_neg (by omega), if_pos (by omega), e2 _ (by omega), if_neg (by omega), e1 _ (by omega), if_neg (by omega), ← hc, g_app, if_pos (by omega)]
  subst e
  exact L_ret ⟨.inr rfl, _, rfl, h H3 r3 ((k1.trans k2).trans k3)⟩
end Go.Proofs.Ytmlhekfkniibmaa

/- A whole list is appended. -/
namespace Go.Proofs.Ytmlhekfkniibmaa
open Go Go.Proofs.Ytmlhekfkniibmaa.AX
theorem ldn_ints {H : AH} {r ver : Nat} : ∀ {m : List Int} {p : Nat}, (∀ i (h : i < m.length), ld H r (p + i) ver = some (.int .i64 m[i])) → ldn H r ver m.length p = some (m.map (.int .i64))
  | [], _, _ => rfl
  | x :: m, p, h => by
    have h0 := h 0 (by simp)
    simp only [Nat.add_zero, List.getElem_cons_zero] at h0
    have h1 : ldn H r ver m.length (p + 1) = some (m.map (.int .i64)) := ldn_ints fun i hi => by
      have := h (i + 1) (by simpa using hi)
      simp only [List.getElem_cons_succ] at this
      rw [← this]; congr 1; omega
    rw [List.length_cons, ldn_succ, h0, Option.bind_some, h1]
    rfl
theorem src_ls {P : Program} {H : AH} {u : TypeId} {x : AV} {m : List Int} (hu : elT P u = true) (hx : Ls H x m) : aSrc P H u 1 x = some (m.length, m.map (.int .i64)) := by
  obtain ⟨e', I', g1, -⟩ := elT_some hu
  obtain ⟨r, off, ver, sz, full, rfl, hld⟩ := hx
  unfold aSrc
  rw [g1]
  cases m with
  | nil => cases r <;> simp
  | cons y m =>
    obtain ⟨r', rfl, rfl, -⟩ := hld 0 (by simp)
    have h1 : ldn H r' ver (y :: m).length off = some ((y :: m).map (.int .i64)) := ldn_ints fun i hi => by
      obtain ⟨r2, h2, -, h3⟩ := hld i hi
      obtain rfl := Option.some.inj h2
      exact h3
    simp only [Nat.mul_one, h1]
    simp
theorem all_ints (m : List Int) : (m.map (AV.int .i64)).all AV.one = true := by
  rw [List.all_eq_true]
  intro x hx
  obtain ⟨i, -, rfl⟩ := List.mem_map.1 hx
  rfl
theorem row0 {P : Program} {H : AH} {t : TypeId} (ht : elT P t = true) : rowV P t 0 [] H = some (some (.slice (some H.length) 0 0 0 1 false), H ++ [.row [] 0 0 false]) := by
  obtain ⟨e, I, h1, h2, h3, h4, hzz⟩ := elT_some ht
  simp [rowV, h1, h2, h3, aFill]
@[simp] theorem row22_0 (H : AH) : rowV Try.prog 22 0 [] H = some (some (.slice (some H.length) 0 0 0 1 false), H ++ [.row [] 0 0 false]) := row0 el22
/-- append(l, x...) -/
theorem ownF_appendL {P : Program} {H H0 : AH} (hE : Ext H0 H) {t u : TypeId} (ht : elT P t = true) (hu : elT P u = true) {v x : AV} {l m : List Int} (ho : OwnF H0.length H v (l.map (.int .i64))) (hx : Ls H x m) (hlen : l.length + m.length ≤ 16777216) :
    ∃ v' H', aAppend P H t u v x = some (v', H') ∧ OwnF H0.length H' v' ((l ++ m).map (.int .i64)) ∧ Ext H0 H' := by
  obtain ⟨e, I, h1, h2, h3, h4, -⟩ := elT_some ht
  have hsrc := src_ls hu hx
  have hall := all_ints m
  have hle := hE.1
  unfold aAppend
  cases m with
  | nil =>
    simp only [List.length_nil, List.map_nil] at hsrc
    refine ⟨v, H, ?_, by simpa using ho, hE⟩
    rcases ho with ⟨-, rfl⟩ | ⟨r, ver, stale, hr0, rfl, hr⟩ <;> simp [h1, h2, h3, h4, hsrc]
  | cons y m =>
    have hml : ((y :: m).map (AV.int .i64)).length = (y :: m).length := by simp
    rw [List.map_append]
    generalize (y :: m).map (AV.int .i64) = vs at *
    have hne : (y :: m).length ≠ 0 := by simp
    generalize (y :: m).length = k at *
    rcases ho with ⟨h0, rfl⟩ | ⟨r, ver, stale, hr0, rfl, hr⟩
    · have : l = [] := by simpa using h0
      subst this
      have hk : k ≤ 16777216 := by simpa using hlen
      refine ⟨.slice (some H.length) 0 k 0 1 false, H ++ [.row vs 0 0 false], ?_, .inr ⟨H.length, 0, 0, by omega, by simp [hml], by simp⟩, hE.trans (.push _ _)⟩
      simp only [h1, h2, h3, h4, hsrc]
      simp [hml, hne, hk]
      exact fun x hx => List.all_eq_true.1 hall x hx
    · have hlt : r < H.length := (List.getElem?_eq_some_iff.1 hr).1
      have hll : (l.map (AV.int .i64)).length = l.length := by simp
      generalize hL : l.map (AV.int .i64) = L at *
      refine ⟨.slice (some r) 0 (l.length + k) (ver + 1) 1 false, H.set r (AObj.row (L ++ vs) (ver + 1) (min stale l.length) false), ?_, .inr ⟨r, ver + 1, min stale l.length, hr0, by simp [hll, hml], get_set hr⟩, hE.set _ hr0⟩
      have hin : inPlace H r 0 l.length k ver 1 vs = none := by simp [inPlace, hr, hll]; omega
      have hgr : grow H r 0 l.length ver vs = some (H.set r (AObj.row (L ++ vs) (ver + 1) (min stale l.length) false), ver + 1) := by
        simp [grow, hr, ← hll]
      simp only [h1, h2, h3, h4, hsrc, hll]
      simp only [Nat.zero_lt_one, true_and, if_true, Option.bind_some, hall, hml, Nat.mul_one, beq_self_eq_true, Bool.and_true, hne, if_false, hlen, Bool.false_eq_true, hin, hgr, Option.map_some]
theorem ls_own0 {H : AH} : Ls (H ++ [.row [] 0 0 false]) (.slice (some H.length) 0 0 0 1 false) [] := ⟨some H.length, 0, 0, 1, false, rfl, fun i hi => by simp at hi⟩
theorem ownF_new (H : AH) : OwnF H.length (H ++ [.row [] 0 0 false]) (.slice (some H.length) 0 0 0 1 false) (([] : List Int).map (.int .i64)) := .inr ⟨H.length, 0, 0, Nat.le_refl _, rfl, by simp⟩
theorem KeepX.new {r : Nat} {H0 A B : AH} (h : KeepX r A B) (hE : Ext H0 A) (hr : H0.length ≤ r) : Ext H0 B := ⟨Nat.le_trans hE.1 h.1, fun j hj => by rw [h.2 j (by omega) (by have := hE.1; omega), hE.2 j hj]⟩
theorem Rw.put {r ver i : Nat} {H : AH} {c : List Int} (h : Rw r ver H c) (hi : i < c.length) (x : Int) :
    ∃ H1, storeV Try.prog 3 H (.ptr r i ver) (.int .i64 x) = some (none, H1) ∧ Rw r ver H1 (c.set i x) ∧ KeepX r H H1 := by
  obtain ⟨s, h⟩ := h
  have h1 := store_row (P := Try.prog) (u := 3) (p := i) sc3 (x := .int .i64 x) (y := .int .i64 c[i]) rfl h (by simp [hi])
  have e1 : (c.map (AV.int .i64)).set i (.int .i64 x) = (c.set i x).map (.int .i64) := by rw [List.map_set]
  rw [e1] at h1
  exact ⟨_, h1, ⟨_, get_set h⟩, (KeepX.refl r H).set _⟩
theorem g_set {c : List Int} {i : Nat} (hi : i < c.length) (x : Int) (k : Nat) : g (c.set i x) k = if k = i then x else g c k := by
  unfold g
  simp only [List.getD_eq_getElem?_getD, List.getElem?_set]
  by_cases h : i = k
  · subst h; simp [hi]
  · rw [if_neg h, if_neg (fun e => h e.symm)]
theorem Rw.ownF {N r ver : Nat} {H : AH} {c : List Int} (h : Rw r ver H c) (hr : N ≤ r) : OwnF N H (.slice (some r) 0 c.length ver 1 false) (c.map (.int .i64)) := by
  obtain ⟨s, h⟩ := h
  exact .inr ⟨r, ver, s, hr, by simp, h⟩
theorem Rw.ls {r ver : Nat} {H : AH} {c : List Int} (h : Rw r ver H c) : Ls H (.slice (some r) 0 c.length ver 1 false) c := by
  obtain ⟨s, h⟩ := h
  exact Ls.row h false
/-- The row of a slice. -/
def rowOf : AV → Option Nat
  | .slice r _ _ _ _ _ => r
  | _ => none
theorem ls_keep {H H' : AH} {w : AV} {l : List Int} (h : Ls H w l) (hk : ∀ j, j < H.length → rowOf w = some j → H'[j]? = H[j]?) : Ls H' w l := by
  obtain ⟨r, off, ver, sz, full, rfl, hl⟩ := h
  refine ⟨r, off, ver, sz, full, rfl, fun i hi => ?_⟩
  obtain ⟨r', h1, h2, h3⟩ := hl i hi
  refine ⟨r', h1, h2, ?_⟩
  have := hk r' (ld_lt h3) h1
  unfold ld at h3 ⊢
  rw [this]; exact h3
/-- append, and which rows stay as they are. -/
theorem ownF_append2 {P : Program} {H H0 : AH} (hE : Ext H0 H) {t u : TypeId} (ht : elT P t = true) (hu : elT P u = true) {v x : AV} {l : List AV} {m : Nat} (ho : OwnF H0.length H v l) (hx : x.one = true) (hlen : l.length < 16777216) :
    ∃ v' H', aAppend P (H ++ [.row [x] 0 m false]) t u v (.slice (some H.length) 0 1 0 1 false) = some (v', H') ∧ OwnF H0.length H' v' (l ++ [x]) ∧ Ext H0 H' ∧ (∀ j, j < H.length → rowOf v ≠ some j → H'[j]? = H[j]?) ∧ (∃ r, rowOf v' = some r ∧ (rowOf v = some r ∨ H.length ≤ r)) ∧ H.length ≤ H'.length := by
  obtain ⟨e, I, h1, h2, h3, h4, -⟩ := elT_some ht
  obtain ⟨e', I', g1, -⟩ := elT_some hu
  have hsrc : aSrc P (H ++ [.row [x] 0 m false]) u 1 (.slice (some H.length) 0 1 0 1 false) = some (1, [x]) := by
    cases x <;> simp_all [aSrc, ldn, takeKnown, AV.one]
  have hle := hE.1
  unfold aAppend
  rcases ho with ⟨rfl, rfl⟩ | ⟨r, ver, stale, hr0, rfl, hr⟩
  · refine ⟨.slice (some (H.length + 1)) 0 1 0 1 false, H ++ [.row [x] 0 m false] ++ [.row [x] 0 0 false], ?_, .inr ⟨H.length + 1, 0, 0, by omega, by simp, by simp⟩, ?_, fun j hj _ => ?_, ⟨H.length + 1, rfl, .inr (by omega)⟩, by simp⟩
    · simp [h1, h2, h3, h4, hsrc, hx]
    · rw [List.append_assoc]; exact hE.trans (.push _ _)
    · rw [List.append_assoc, List.getElem?_append_left hj]
  · have hlt : r < H.length := (List.getElem?_eq_some_iff.1 hr).1
    have hr' : (H ++ [.row [x] 0 m false])[r]? = some (.row l ver stale false) := by rw [List.getElem?_append_left hlt]; exact hr
    refine ⟨.slice (some r) 0 (l.length + 1) (ver + 1) 1 false, (H ++ [AObj.row [x] 0 m false]).set r (AObj.row (l ++ [x]) (ver + 1) (min stale l.length) false), ?_, .inr ⟨r, ver + 1, min stale l.length, hr0, by simp, ?_⟩, ?_, fun j hj hne => ?_, ⟨r, rfl, .inl rfl⟩, by simp⟩
    · have : l.length + 1 ≤ 16777216 := hlen
      have hin : inPlace (H ++ [AObj.row [x] 0 m false]) r 0 l.length 1 ver 1 [x] = none := by simp [inPlace, hr']; omega
      simp [h1, h2, h3, h4, hsrc, hx, grow, hr', this, hin]
    · rw [List.getElem?_set]
      simp; omega
    · exact (hE.trans (.push _ _)).set _ hr0
    · have hjr : r ≠ j := fun h => hne (by rw [h]; rfl)
      rw [List.getElem?_set_ne hjr, List.getElem?_append_left hj]
theorem ownF_ext {N : Nat} {H H1 : AH} {v : AV} {l : List AV} (h : OwnF N H v l) (hE : Ext H H1) : OwnF N H1 v l := by
  rcases h with h | ⟨r, ver, stale, h1, h2, h3⟩
  · exact .inl h
  · exact .inr ⟨r, ver, stale, h1, h2, hE.row h3⟩
theorem ownF_rowlt {N : Nat} {H : AH} {v : AV} {l : List AV} (h : OwnF N H v l) {j : Nat} (hj : rowOf v = some j) : N ≤ j ∧ j < H.length := by
  rcases h with ⟨-, rfl⟩ | ⟨r, ver, stale, h1, rfl, h3⟩
  · cases hj
  · cases hj; exact ⟨h1, (List.getElem?_eq_some_iff.1 h3).1⟩
end Go.Proofs.Ytmlhekfkniibmaa

/- The order in which rollers go, as the program finds it. -/
namespace Go.Proofs.Ytmlhekfkniibmaa
open Go Go.Proofs.Ytmlhekfkniibmaa.AX

def allS (n : Nat) : List Int := (List.range n).map Int.ofNat
theorem allS_len (n : Nat) : (allS n).length = n := by simp [allS]
theorem g_all {n i : Nat} (h : i < n) : g (allS n) i = i := by rw [g_lt (by simpa [allS] using h)]; simp [allS]
def ordS (k : Nat) : Nat → List Int → List Int
  | 0, _ => []
  | m + 1, l => g l ((k - 1) % (m + 1)) :: ordS k m (rot l ((k - 1) % (m + 1)))
theorem ordS_len (k : Nat) : ∀ (m : Nat) (l : List Int), (ordS k m l).length = m
  | 0, _ => rfl
  | m + 1, l => by simp [ordS, ordS_len k m]
def orderS (n k : Nat) : List Int := ordS k n (allS n)
theorem orderS_len (n k : Nat) : (orderS n k).length = n := ordS_len k n _

theorem full_ac (n : Nat) (hn : n ≤ 1000000) (H : AH) (Q : AV → AH → Prop) (h : ∀ H', Rw H.length 0 H' (allS n) → Ext H H' → Q (SV false H.length 0 n 0) H') : AC Try.prog 70 [.int .i64 n] H Q := by
  refine L_body 17 Try.func70 rfl rfl ?_
  refine L_reg [0] (fun K hK => ?_)
  simp
  apply hK; clear hK K
  refine L_reg [0, 3] (fun K hK => ?_)
  simp [make_z elz74 (show n ≤ 16777216 by omega)]
  apply hK; clear hK K
  have hE1 : Ext H (H ++ [AObj.row (List.replicate n (AV.int .i64 0)) 0 0 false]) := .push _ _
  have hw : Rw H.length 0 (H ++ [AObj.row (List.replicate n (AV.int .i64 0)) 0 0 false]) (List.replicate n 0) := ⟨0, by simp⟩
  generalize H ++ [AObj.row (List.replicate n (AV.int .i64 0)) 0 0 false] = H1 at hE1 hw ⊢
  rw [show AV.slice (some H.length) 0 n 0 1 false = SV false H.length 0 n 0 from rfl]
  refine L_reg [3, 7, 8] (fun K hK => ?_)
  simp
  apply hK; clear hK K
  refine L_block (L_loopV [8] (fun m vs H' => ∃ (i : Nat) (d : List Int), m = n - i ∧ i ≤ n ∧ d.length = n ∧ (∀ x : Nat, x < i → g d x = x) ∧ vs = [.int .i64 i] ∧ Rw H.length 0 H' d ∧ Ext H H') _ [.int .i64 0] rfl ⟨0, List.replicate n 0, rfl, by omega, by simp, fun x hx => by omega, rfl, hw, hE1⟩ ?_)
  rintro m _ H2 ⟨i, d, rfl, hi, hdl, hd, rfl, hrow, hE⟩
  refine L_reg [3, 7, 8, 9] (fun K hK => ?_)
  simp
  apply hK; clear hK K
  refine L_dec (i < n) (by simp) (fun hlt => ?_) (fun hge => L_exit ?_)
  · refine L_block ?_
    obtain ⟨H3, e1, e2, e3⟩ := hrow.put (i := i) (by omega) (i : Int)
    refine L_reg [3, 4, 7, 8] (fun K hK => ?_)
    simp
    apply hK; clear hK K
    refine L_reg [3, 7, 8] (fun K hK => ?_)
    simp [hlt, e1]
    apply hK; clear hK K
    refine L_reg [3, 7, 8] (fun K hK => ?_)
    simp [wrap_i64 (a := (i : Int) + 1) (by omega)]
    apply hK; clear hK K
    refine ⟨n - (i + 1), [.int .i64 (i + 1 : Nat)], by omega, by simp, i + 1, _, rfl, by omega, by simpa using hdl, fun x hx => ?_, rfl, e2, e3.new hE (Nat.le_refl _)⟩
    rw [g_set (by omega)]
    split
    · rename_i e; rw [e]
    · exact hd x (by omega)
  · have hi' : i = n := by omega
    subst hi'
    have e : d = allS i := g_ext (by simp [allS, hdl]) fun x hx => by rw [hd x (by omega), g_all (by omega)]
    subst e
    refine L_reg [2] (fun K hK => ?_)
    simp
    apply hK; clear hK K
    exact L_ret ⟨.inr rfl, _, rfl, h _ hrow hE⟩
theorem reached_ac (b : Bool) (r off n ver k : Nat) (hn : 1 ≤ n) (hk : 1 ≤ k) (hk2 : k ≤ 1000000000000) (H : AH) (Q : AV → AH → Prop) (h : Q (.int .i64 ((k - 1) % n : Nat)) H) : AC Try.prog 72 [SV b r off n ver, .int .i64 k] H Q := by
  refine L_body 10 Try.func72 rfl rfl ?_
  refine L_reg [0, 1] (fun K hK => ?_)
  simp
  apply hK; clear hK K
  have hne : n ≠ 0 := by omega
  have e2 : ((k : Int) - 1).tmod n = (((k - 1) % n : Nat) : Int) := by
    rw [show (k : Int) - 1 = ((k - 1 : Nat) : Int) by omega, Int.tmod_eq_emod_of_nonneg (by omega)]; rfl
  refine L_reg [4] (fun K hK => ?_)
  simp [wrap_i64 (a := (k : Int) - 1) (by omega), hne, e2]
  apply hK; clear hK K
  exact L_ret ⟨.inr rfl, _, rfl, h⟩
set_option maxRecDepth 100000 in
theorem order_ac (n k : Nat) (h1 : n ≤ 1000) (h3 : 1 ≤ k) (h4 : k ≤ 1000000000000) (H : AH) (Q : AV → AH → Prop) (h : ∀ v H', OwnF H.length H' v ((orderS n k).map (.int .i64)) → Ext H H' → Q v H') : AC Try.prog 45 [.int .i64 n, .int .i64 k] H Q := by
  refine L_body 20 Try.func45 rfl rfl ?_
  refine L_reg [0, 1] (fun K hK => ?_)
  simp
  apply hK; clear hK K
  refine L_reg [0, 1, 5] (fun K hK => ?_)
  simp [okFn_low]
  refine full_ac n (by omega) _ _ (fun H1 r1 E1 => ?_)
  simp
  apply hK; clear hK K
  refine L_reg [0, 1, 5, 6] (fun K hK => ?_)
  simp
  apply hK; clear hK K
  refine L_reg [1, 5, 6, 10, 11] (fun K hK => ?_)
  simp
  apply hK; clear hK K
  refine L_block (L_loopV [6, 11] (fun m vs H' => ∃ (i : Nat) (b : Bool) (done sit : List Int), m = n - i ∧ i ≤ n ∧ done.length = i ∧ sit.length = n - i ∧ done ++ ordS k (n - i) sit = orderS n k ∧ vs = [SV b H.length i (n - i) 0, .int .i64 i] ∧ Rw H.length 0 H' (done ++ sit) ∧ Ext H H') _ [SV false H.length 0 n 0, .int .i64 0] rfl ⟨0, false, [], allS n, rfl, by omega, rfl, by simp [allS], rfl, rfl, r1, E1⟩ ?_)
  rintro m _ H2 ⟨i, b, done, sit, rfl, hi, hdl, hsl, hord, rfl, hrow, hE⟩
  refine L_reg [1, 5, 6, 10, 11, 12] (fun K hK => ?_)
  simp
  apply hK; clear hK K
  refine L_dec (i < n) (by simp) (fun hlt => ?_) (fun hge => L_exit ?_)
  · refine L_block ?_
    obtain ⟨j, hj⟩ : ∃ j, n - i = j + 1 := ⟨n - i - 1, by omega⟩
    have hlt2 : (k - 1) % (j + 1) < j + 1 := Nat.mod_lt _ (by omega)
    rw [hj] at hord hsl ⊢
    unfold ordS at hord
    refine L_reg [1, 5, 6, 10, 11] (fun K hK => ?_)
    simp [okFn_low]
    refine reached_ac b _ i (j + 1) 0 k (by omega) h3 h4 _ _ ?_
    simp [okFn_low]
    refine leave_ac b H.length 0 ((k - 1) % (j + 1)) i (j + 1) done sit _ _ hrow hdl hsl hlt2 (by omega) (fun H3 r3 k3 => ?_)
    simp
    apply hK; clear hK K
    refine L_reg [1, 5, 6, 10, 11] (fun K hK => ?_)
    simp [wrap_i64 (a := (i : Int) + 1) (by omega)]
    apply hK; clear hK K
    refine ⟨n - (i + 1), [SV true H.length (i + 1) j 0, .int .i64 (i + 1 : Nat)], by omega, by simp, i + 1, true, done ++ [g sit ((k - 1) % (j + 1))], rot sit ((k - 1) % (j + 1)), rfl, by omega, by simp [hdl], by rw [rot_len (by omega)]; omega, ?_, ?_, r3, k3.new hE (Nat.le_refl _)⟩
    · rw [show n - (i + 1) = j by omega, List.append_assoc]; exact hord
    · rw [show n - (i + 1) = j by omega]
  · have hi' : i = n := by omega
    subst hi'
    have hs : sit = [] := by
      apply List.eq_nil_of_length_eq_zero; omega
    subst hs
    rw [Nat.sub_self] at hord
    unfold ordS at hord
    rw [hord] at hrow
    refine L_reg [4] (fun K hK => ?_)
    simp
    apply hK; clear hK K
    have := hrow.ownF (N := H.length) (Nat.le_refl _)
    rw [orderS_len] at this
    exact L_ret ⟨.inr rfl, _, rfl, h _ H2 this hE⟩
end Go.Proofs.Ytmlhekfkniibmaa

/- The order in which rollers go, as the reference finds it; small functions of both. -/
namespace Go.Proofs.Ytmlhekfkniibmaa
open Go Go.Proofs.Ytmlhekfkniibmaa.AX

theorem in_ac (x lo hi : Int) (H : AH) (Q : AV → AH → Prop) (h : Q (.bool (decide (lo ≤ x ∧ x ≤ hi))) H) : AC Try.prog 51 [.int .i64 x, .int .i64 lo, .int .i64 hi] H Q := by
  refine L_body 15 Try.func51 rfl rfl ?_
  refine L_reg [0, 1, 2] (fun K hK => ?_)
  simp
  apply hK; clear hK K
  by_cases h1 : lo ≤ x
  · have e1 : decide (x ≥ lo) = true := by simpa using h1
    by_cases h2 : x ≤ hi
    · refine L_reg [6] (fun K hK => ?_)
      simp [h1, h2, pickV]
      apply hK; clear hK K
      exact L_ret ⟨.inr rfl, _, rfl, by simpa [h1, h2] using h⟩
    · refine L_reg [6] (fun K hK => ?_)
      simp [h1, h2, pickV]
      apply hK; clear hK K
      exact L_ret ⟨.inr rfl, _, rfl, by simpa [h1, h2] using h⟩
  · refine L_reg [6] (fun K hK => ?_)
    simp [h1, pickV]
    apply hK; clear hK K
    exact L_ret ⟨.inr rfl, _, rfl, by simpa [h1] using h⟩
theorem isBench_ac (n : Int) (H : AH) (Q : AV → AH → Prop) (h : Q (.bool (decide (1 ≤ n ∧ n ≤ 20))) H) : AC Try.prog 56 [.int .i64 n] H Q := by
  refine L_body 9 Try.func56 rfl rfl ?_
  refine L_reg [0] (fun K hK => ?_)
  simp
  apply hK; clear hK K
  by_cases h1 : 1 ≤ n
  · by_cases h2 : n ≤ 20
    · refine L_reg [2] (fun K hK => ?_)
      simp [h1, h2, pickV]
      apply hK; clear hK K
      exact L_ret ⟨.inr rfl, _, rfl, by simpa [h1, h2] using h⟩
    · refine L_reg [2] (fun K hK => ?_)
      simp [h1, h2, pickV]
      apply hK; clear hK K
      exact L_ret ⟨.inr rfl, _, rfl, by simpa [h1, h2] using h⟩
  · refine L_reg [2] (fun K hK => ?_)
    simp [h1, pickV]
    apply hK; clear hK K
    exact L_ret ⟨.inr rfl, _, rfl, by simpa [h1] using h⟩
theorem isRoller_ac (n x : Int) (H : AH) (Q : AV → AH → Prop) (h : Q (.bool (decide (0 ≤ x ∧ x < n))) H) : AC Try.prog 62 [.int .i64 n, .int .i64 x] H Q := by
  refine L_body 12 Try.func62 rfl rfl ?_
  refine L_reg [0, 1] (fun K hK => ?_)
  simp
  apply hK; clear hK K
  by_cases h1 : 0 ≤ x
  · by_cases h2 : x < n
    · refine L_reg [4] (fun K hK => ?_)
      simp [h1, h2, pickV]
      apply hK; clear hK K
      exact L_ret ⟨.inr rfl, _, rfl, by simpa [h1, h2] using h⟩
    · refine L_reg [4] (fun K hK => ?_)
      simp [h1, h2, pickV]
      apply hK; clear hK K
      exact L_ret ⟨.inr rfl, _, rfl, by simpa [h1, h2] using h⟩
  · refine L_reg [4] (fun K hK => ?_)
    simp [h1, pickV]
    apply hK; clear hK K
    exact L_ret ⟨.inr rfl, _, rfl, by simpa [h1] using h⟩
/-- Whether rollers and a count are in range. -/
def okB (n k : Int) : Prop := (1 ≤ n ∧ n ≤ 20) ∧ 1 ≤ k ∧ k ≤ 1000000000
instance (n k : Int) : Decidable (okB n k) := by unfold okB; infer_instance
def benchE (n k : Int) : Int := if okB n k then 0 else 1
def oneE (n k x : Int) : Int := if okB n k then (if 0 ≤ x ∧ x < n then 0 else 2) else 1
theorem check_ac (n k : Int) (H : AH) (Q : AV → AH → Prop) (h : Q (.int .i64 (benchE n k)) H) : AC Try.prog 44 [.int .i64 n, .int .i64 k] H Q := by
  refine L_body 16 Try.func44 rfl rfl ?_
  refine L_reg [0, 1] (fun K hK => ?_)
  simp
  apply hK; clear hK K
  unfold benchE at h
  by_cases h1 : 1 ≤ n ∧ n ≤ 20
  · by_cases h2 : 1 ≤ k
    · by_cases h3 : k ≤ 1000000000
      · rw [if_pos ⟨h1, h2, h3⟩] at h
        have g2 : ¬ k < 1 := by omega
        have g3 : ¬ k > 1000000000 := by omega
        refine L_reg [15] (fun K hK => ?_)
        simp [okFn_low]
        refine isBench_ac _ _ _ ?_
        simp [h1, g2, g3, pickV]
        apply hK; clear hK K
        refine L_false (by simp) ?_
        refine L_reg [4] (fun K hK => ?_)
        simp
        apply hK; clear hK K
        exact L_ret ⟨.inr rfl, _, rfl, h⟩
      · rw [if_neg (fun e => h3 e.2.2)] at h
        have g2 : ¬ k < 1 := by omega
        have g3 : k > 1000000000 := by omega
        refine L_reg [15] (fun K hK => ?_)
        simp [okFn_low]
        refine isBench_ac _ _ _ ?_
        simp [h1, g2, g3, pickV]
        apply hK; clear hK K
        refine L_true (by simp) ?_
        refine L_reg [4] (fun K hK => ?_)
        simp
        apply hK; clear hK K
        exact L_ret ⟨.inr rfl, _, rfl, h⟩
    · rw [if_neg (fun e => h2 e.2.1)] at h
      have g2 : k < 1 := by omega
      refine L_reg [15] (fun K hK => ?_)
      simp [okFn_low]
      refine isBench_ac _ _ _ ?_
      simp [h1, g2, pickV]
      apply hK; clear hK K
      refine L_true (by simp) ?_
      refine L_reg [4] (fun K hK => ?_)
      simp
      apply hK; clear hK K
      exact L_ret ⟨.inr rfl, _, rfl, h⟩
  · rw [if_neg (fun e => h1 e.1)] at h
    refine L_reg [15] (fun K hK => ?_)
    simp [okFn_low]
    refine isBench_ac _ _ _ ?_
    simp [decide_eq_false h1, pickV]
    apply hK; clear hK K
    refine L_true (by simp) ?_
    refine L_reg [4] (fun K hK => ?_)
    simp
    apply hK; clear hK K
    exact L_ret ⟨.inr rfl, _, rfl, h⟩
theorem counted_ac (n k : Int) (H : AH) (Q : AV → AH → Prop) (h : Q (.int .i64 (benchE n k)) H) : AC Try.prog 46 [.int .i64 n, .int .i64 k] H Q := by
  refine L_body 13 Try.func46 rfl rfl ?_
  refine L_reg [0, 1] (fun K hK => ?_)
  simp
  apply hK; clear hK K
  unfold benchE at h
  by_cases h1 : 1 ≤ n ∧ n ≤ 20
  · by_cases h2 : 1 ≤ k ∧ k ≤ 1000000000
    · rw [if_pos ⟨h1, h2⟩] at h
      refine L_reg [12] (fun K hK => ?_)
      simp [okFn_low]
      refine in_ac _ _ _ _ _ ?_
      simp [okFn_low, decide_eq_true h1]
      refine in_ac _ _ _ _ _ ?_
      simp [decide_eq_true h2, pickV]
      apply hK; clear hK K
      refine L_false (by simp) ?_
      refine L_reg [4] (fun K hK => ?_)
      simp
      apply hK; clear hK K
      exact L_ret ⟨.inr rfl, _, rfl, h⟩
    · rw [if_neg (fun e => h2 e.2)] at h
      refine L_reg [12] (fun K hK => ?_)
      simp [okFn_low]
      refine in_ac _ _ _ _ _ ?_
      simp [okFn_low, decide_eq_true h1]
      refine in_ac _ _ _ _ _ ?_
      simp [decide_eq_false h2, pickV]
      apply hK; clear hK K
      refine L_true (by simp) ?_
      refine L_reg [4] (fun K hK => ?_)
      simp
      apply hK; clear hK K
      exact L_ret ⟨.inr rfl, _, rfl, h⟩
  · rw [if_neg (fun e => h1 e.1)] at h
    refine L_reg [12] (fun K hK => ?_)
    simp [okFn_low]
    refine in_ac _ _ _ _ _ ?_
    simp [decide_eq_false h1, pickV]
    apply hK; clear hK K
    refine L_true (by simp) ?_
    refine L_reg [4] (fun K hK => ?_)
    simp
    apply hK; clear hK K
    exact L_ret ⟨.inr rfl, _, rfl, h⟩
theorem checkOne_ac (n k x : Int) (H : AH) (Q : AV → AH → Prop) (h : Q (.int .i64 (oneE n k x)) H) : AC Try.prog 49 [.int .i64 n, .int .i64 k, .int .i64 x] H Q := by
  refine L_body 18 Try.func49 rfl rfl ?_
  refine L_reg [0, 1, 2] (fun K hK => ?_)
  simp
  apply hK; clear hK K
  refine L_reg [0, 2, 7] (fun K hK => ?_)
  simp [okFn_low]
  refine check_ac n k _ _ ?_
  simp
  apply hK; clear hK K
  refine L_reg [0, 2, 7, 12] (fun K hK => ?_)
  simp
  apply hK; clear hK K
  unfold oneE at h
  by_cases h1 : okB n k
  · have e1 : benchE n k = 0 := by unfold benchE; rw [if_pos h1]
    rw [if_pos h1] at h
    refine L_false (by simp [e1]) ?_
    by_cases h2 : 0 ≤ x ∧ x < n
    · rw [if_pos h2] at h
      refine L_reg [17] (fun K hK => ?_)
      simp [okFn_low]
      refine isRoller_ac _ _ _ _ ?_
      simp [h2]
      apply hK; clear hK K
      refine L_false (by simp) ?_
      refine L_reg [6] (fun K hK => ?_)
      simp
      apply hK; clear hK K
      exact L_ret ⟨.inr rfl, _, rfl, h⟩
    · rw [if_neg h2] at h
      refine L_reg [17] (fun K hK => ?_)
      simp [okFn_low]
      refine isRoller_ac _ _ _ _ ?_
      simp [decide_eq_false h2]
      apply hK; clear hK K
      refine L_true (by simp) ?_
      refine L_reg [6] (fun K hK => ?_)
      simp
      apply hK; clear hK K
      exact L_ret ⟨.inr rfl, _, rfl, h⟩
  · have e1 : benchE n k = 1 := by unfold benchE; rw [if_neg h1]
    rw [if_neg h1] at h
    refine L_true (by simp [e1]) ?_
    rw [← e1] at h
    refine L_reg [6] (fun K hK => ?_)
    simp
    apply hK; clear hK K
    exact L_ret ⟨.inr rfl, _, rfl, h⟩
theorem all_ac (n : Nat) (hn : n ≤ 1000000) (H : AH) (Q : AV → AH → Prop) (h : ∀ v H', OwnF H.length H' v ((allS n).map (.int .i64)) → Ext H H' → Q v H') : AC Try.prog 54 [.int .i64 n] H Q := by
  refine L_body 15 Try.func54 rfl rfl ?_
  refine L_reg [0] (fun K hK => ?_)
  simp
  apply hK; clear hK K
  refine L_reg [0, 3] (fun K hK => ?_)
  simp
  apply hK; clear hK K
  refine L_reg [0, 3, 4] (fun K hK => ?_)
  simp
  apply hK; clear hK K
  refine L_block (L_loopV [3, 4] (fun m vs H' => ∃ (i : Nat) (v : AV), m = n - i ∧ i ≤ n ∧ vs = [v, .int .i64 i] ∧ OwnF H.length H' v ((allS i).map (.int .i64)) ∧ Ext H H') _ [.slice none 0 0 0 1 false, .int .i64 0] rfl ⟨0, _, rfl, by omega, rfl, .nil _ _, .refl _⟩ ?_)
  rintro m _ H1 ⟨i, v, rfl, hi, rfl, hO, hE⟩
  refine L_reg [0, 3, 4, 7] (fun K hK => ?_)
  simp
  apply hK; clear hK K
  refine L_dec (i < n) (by simp) (fun hlt => ?_) (fun hge => L_exit ?_)
  · refine L_block ?_
    obtain ⟨v', H2, happ, hO2, hE2⟩ := ownF_append hE el22 el22 (x := .int .i64 (i : Int)) (m := 1) hO rfl (by simp [allS]; omega)
    refine L_reg [0, 3, 4] (fun K hK => ?_)
    simp [happ]
    apply hK; clear hK K
    refine L_reg [0, 3, 4] (fun K hK => ?_)
    simp [wrap_i64 (a := (i : Int) + 1) (by omega)]
    apply hK; clear hK K
    exact ⟨n - (i + 1), [v', .int .i64 (i + 1 : Nat)], by omega, by simp, i + 1, v', rfl, by omega, rfl, by simpa [allS, List.range_succ] using hO2, hE2⟩
  · have hi' : i = n := by omega
    subst hi'
    refine L_reg [2] (fun K hK => ?_)
    simp
    apply hK; clear hK K
    exact L_ret ⟨.inr rfl, _, rfl, h v H1 hO hE⟩
set_option maxRecDepth 100000 in
theorem after_ac (v : AV) (l : List Int) (a : Nat) (ha : a < l.length) (hl : l.length ≤ 1000000) (H : AH) (Q : AV → AH → Prop) (hv : Ls H v l) (h : ∀ v' H', OwnF H.length H' v' ((rot l a).map (.int .i64)) → Ext H H' → Q v' H') : AC Try.prog 55 [v, .int .i64 a] H Q := by
  obtain ⟨r, off, ver, sz, full, rfl, hsz, hsub⟩ := hv.sub
  obtain rfl := hsz (by intro e; rw [e] at ha; simp at ha)
  refine L_body 17 Try.func55 rfl rfl ?_
  refine L_reg [0, 1] (fun K hK => ?_)
  simp
  apply hK; clear hK K
  have hE1 : Ext H (H ++ [AObj.row [] 0 0 false]) := .push _ _
  have s1 := slice_lo (k := .i64) slz22 r off l.length ver full (show a + 1 ≤ l.length by omega)
  rw [Nat.mul_one] at s1
  push_cast at s1
  have L1 := (hsub (a + 1) l.length full (by omega) (Nat.le_refl _)).ext hE1
  rw [List.take_of_length_le (by simp)] at L1
  obtain ⟨v1, H1, p1, o1, x1⟩ := ownF_appendL hE1 el22 el22 (ownF_new H) L1 (by simp; omega)
  have s2 := slice_hi (k := .i64) slz22 r off l.length ver full (Nat.le_of_lt ha)
  rw [Nat.add_zero] at s2
  have L2 := (hsub 0 a (full && a == l.length) (by omega) (by omega)).ext x1
  rw [Nat.add_zero, List.drop_zero, Nat.sub_zero] at L2
  obtain ⟨v2, H2, p2, o2, x2⟩ := ownF_appendL x1 el22 el22 o1 L2 (by simp; omega)
  have e2 : IntKind.i64.wrap ((a : Int) + 1) = (a : Int) + 1 := wrap_i64 (by omega)
  refine L_reg [0, 1, 5] (fun K hK => ?_)
  simp [e2, s1, p1]
  apply hK; clear hK K
  refine L_reg [4] (fun K hK => ?_)
  simp [s2, p2]
  apply hK; clear hK K
  exact L_ret ⟨.inr rfl, _, rfl, h v2 H2 (by simpa [rot] using o2) x2⟩
set_option maxRecDepth 100000 in
theorem orderR_ac (n k : Nat) (h1 : n ≤ 1000) (h3 : 1 ≤ k) (h4 : k ≤ 1000000000000) (H : AH) (Q : AV → AH → Prop) (h : ∀ v H', OwnF H.length H' v ((orderS n k).map (.int .i64)) → Ext H H' → Q v H') : AC Try.prog 47 [.int .i64 n, .int .i64 k] H Q := by
  refine L_body 29 Try.func47 rfl rfl ?_
  refine L_reg [0, 1] (fun K hK => ?_)
  simp
  apply hK; clear hK K
  refine L_reg [0, 1, 5] (fun K hK => ?_)
  simp
  apply hK; clear hK K
  refine L_reg [1, 5, 6] (fun K hK => ?_)
  simp [okFn_low]
  refine all_ac n (by omega) _ _ (fun w0 H0 o0 E0 => ?_)
  simp
  apply hK; clear hK K
  refine L_block (L_loopV [5, 6] (fun m vs H' => ∃ (j : Nat) (v w : AV) (done sit : List Int), m = j ∧ j ≤ n ∧ done.length + j = n ∧ sit.length = j ∧ done ++ ordS k j sit = orderS n k ∧ vs = [v, w] ∧ OwnF H.length H' v (done.map (.int .i64)) ∧ OwnF H.length H' w (sit.map (.int .i64)) ∧ (∀ r, rowOf w = some r → rowOf v ≠ some r) ∧ Ext H H') _ [.slice none 0 0 0 1 false, w0] rfl ⟨n, _, w0, [], allS n, rfl, by omega, by simp, by simp [allS], rfl, rfl, .nil _ _, o0, fun r _ e => (by cases e), E0⟩ ?_)
  rintro m _ H1 ⟨j, v, w, done, sit, rfl, hj, hdl, hsl, hord, rfl, hO, hw1, hap, hE⟩
  have hw0 := hw1.own.ls
  obtain ⟨r, off, ver, sz, full, rfl, hld⟩ := id hw0
  refine L_reg [1, 5, 6, 12] (fun K hK => ?_)
  simp
  apply hK; clear hK K
  refine L_dec (0 < sit.length) (by simp) (fun hlt => ?_) (fun hge => L_exit ?_)
  · obtain ⟨i, rfl⟩ : ∃ i, m = i + 1 := ⟨m - 1, by omega⟩
    refine L_block ?_
    have hlt2 : (k - 1) % (i + 1) < i + 1 := Nat.mod_lt _ (by omega)
    have e2 : ((k : Int) - 1).tmod (((i + 1 : Nat) : Int)) = (((k - 1) % (i + 1) : Nat) : Int) := by
      rw [show (k : Int) - 1 = ((k - 1 : Nat) : Int) by omega, Int.tmod_eq_emod_of_nonneg (by omega)]; rfl
    obtain ⟨s, hs⟩ : ∃ s : Nat, s = i + 1 := ⟨_, rfl⟩
    have hs0 : s ≠ 0 := by omega
    have hsl2 : sit.length = s := by omega
    rw [← hs] at e2
    have hg := g_lt (c := sit) (i := (k - 1) % (i + 1)) (by omega)
    unfold ordS at hord
    obtain ⟨a, ha⟩ : ∃ a : Nat, a = (k - 1) % (i + 1) := ⟨_, rfl⟩
    rw [← hs] at ha
    have hgi : g sit a = g sit ((k - 1) % (i + 1)) := by rw [ha, hs]
    rw [← hs] at hlt2 hord
    rw [← ha] at e2 hlt2 hord
    rw [hsl2] at hw0 ⊢
    obtain ⟨r', rfl, rfl, hrd⟩ := hld a (by omega)
    obtain ⟨v', H2, happ, hO2, hE2, hst, ⟨rv, hrv, hrv2⟩, hlen2⟩ := ownF_append2 hE el22 el22 (x := .int .i64 (g sit a)) (m := 1) hO rfl (by simp; omega)
    rw [← g_lt (c := sit) (i := a) (by omega)] at hrd
    have hw2 := ls_keep hw0 (H' := H2) (fun j hj hr => hst j hj (hap j hr))
    refine L_reg [1, 5, 6, 7] (fun K hK => ?_)
    simp [wrap_i64 (a := (k : Int) - 1) (by omega), hs0, e2]
    apply hK; clear hK K
    refine L_reg [1, 5, 6, 7] (fun K hK => ?_)
    simp [hlt2, hrd, happ]
    apply hK; clear hK K
    refine L_reg [1, 5, 6] (fun K hK => ?_)
    simp [okFn_low]
    refine after_ac _ sit a (by omega) (by omega) _ _ hw2 (fun w2 H3 o3 E3 => ?_)
    simp
    apply hK; clear hK K
    refine ⟨i, [v', w2], by omega, rfl, i, v', w2, done ++ [g sit a], rot sit a, rfl, by omega, by simp; omega, by rw [rot_len (by omega)]; omega, by rw [List.append_assoc]; exact hord, rfl, ?_, o3.mono (by have := hE2.1; omega), fun r hr hr2 => ?_, hE2.trans E3⟩
    · have : OwnF H.length H2 v' ((done ++ [g sit a]).map (.int .i64)) := by simpa using hO2
      exact ownF_ext this E3
    · have g1 := ownF_rowlt o3 hr
      have g2 := ownF_rowlt hO2 hr2
      omega
  · have hm : m = 0 := by omega
    subst hm
    unfold ordS at hord
    rw [List.append_nil] at hord
    subst hord
    refine L_reg [4] (fun K hK => ?_)
    simp
    apply hK; clear hK K
    exact L_ret ⟨.inr rfl, _, rfl, h v H1 hO hE⟩
end Go.Proofs.Ytmlhekfkniibmaa

/- Order, Last, When and Who, of both. -/
namespace Go.Proofs.Ytmlhekfkniibmaa
open Go Go.Proofs.Ytmlhekfkniibmaa.AX

theorem okB_nat {n k : Int} (h : okB n k) : ∃ a b : Nat, n = a ∧ k = b ∧ 1 ≤ a ∧ a ≤ 20 ∧ 1 ≤ b ∧ b ≤ 1000000000 := by
  obtain ⟨⟨h1, h2⟩, h3, h4⟩ := h
  exact ⟨n.toNat, k.toNat, by omega, by omega, by omega, by omega, by omega, by omega⟩
theorem benchE_ok {n k : Int} (h : okB n k) : benchE n k = 0 := by unfold benchE; rw [if_pos h]
theorem benchE_no {n k : Int} (h : ¬ okB n k) : benchE n k = 1 := by unfold benchE; rw [if_neg h]
def orderP (n k : Int) : List Int := if okB n k then orderS n.toNat k.toNat else []
theorem Order_ac (n k : Int) (H : AH) (Q : AV → AH → Prop) (h : ∀ v H', OwnF H.length H' v ((orderP n k).map (.int .i64)) → Ext H H' → Q (.tuple [v, .int .i64 (benchE n k)]) H') : AC Try.prog 13 [.int .i64 n, .int .i64 k] H Q := by
  refine L_body 16 Try.func13 rfl rfl ?_
  refine L_reg [0, 1] (fun K hK => ?_)
  simp
  apply hK; clear hK K
  refine L_reg [0, 1, 6] (fun K hK => ?_)
  simp [okFn_low]
  refine check_ac n k _ _ ?_
  simp
  apply hK; clear hK K
  refine L_reg [0, 1, 6, 11] (fun K hK => ?_)
  simp
  apply hK; clear hK K
  unfold orderP at h
  by_cases h0 : okB n k
  · have e0 := benchE_ok h0
    refine L_false (by simp [e0]) ?_
    rw [if_pos h0, e0] at h
    obtain ⟨n, k, rfl, rfl, a1, a2, a3, a4⟩ := okB_nat h0
    simp only [Int.toNat_natCast] at h
    refine L_reg [4, 5] (fun K hK => ?_)
    simp [okFn_low]
    refine order_ac n k (by omega) (by omega) (by omega) _ _ (fun v H1 o1 E1 => ?_)
    simp
    apply hK; clear hK K
    exact L_ret ⟨.inr rfl, _, rfl, h v H1 o1 E1⟩
  · have e0 := benchE_no h0
    rw [if_neg h0] at h
    refine L_true (by simp [e0]) ?_
    refine L_reg [4, 5] (fun K hK => ?_)
    simp
    apply hK; clear hK K
    exact L_ret ⟨.inr rfl, _, rfl, h _ _ (.nil _ _) (.refl _)⟩
theorem OrderR_ac (n k : Int) (H : AH) (Q : AV → AH → Prop) (h : ∀ v H', OwnF H.length H' v ((orderP n k).map (.int .i64)) → Ext H H' → Q (.tuple [v, .int .i64 (benchE n k)]) H') : AC Try.prog 14 [.int .i64 n, .int .i64 k] H Q := by
  refine L_body 16 Try.func14 rfl rfl ?_
  refine L_reg [0, 1] (fun K hK => ?_)
  simp
  apply hK; clear hK K
  refine L_reg [0, 1, 6] (fun K hK => ?_)
  simp [okFn_low]
  refine counted_ac n k _ _ ?_
  simp
  apply hK; clear hK K
  refine L_reg [0, 1, 6, 11] (fun K hK => ?_)
  simp
  apply hK; clear hK K
  unfold orderP at h
  by_cases h0 : okB n k
  · have e0 := benchE_ok h0
    refine L_false (by simp [e0]) ?_
    rw [if_pos h0, e0] at h
    obtain ⟨n, k, rfl, rfl, a1, a2, a3, a4⟩ := okB_nat h0
    simp only [Int.toNat_natCast] at h
    refine L_reg [4, 5] (fun K hK => ?_)
    simp [okFn_low]
    refine orderR_ac n k (by omega) (by omega) (by omega) _ _ (fun v H1 o1 E1 => ?_)
    simp
    apply hK; clear hK K
    exact L_ret ⟨.inr rfl, _, rfl, h v H1 o1 E1⟩
  · have e0 := benchE_no h0
    rw [if_neg h0] at h
    refine L_true (by simp [e0]) ?_
    refine L_reg [4, 5] (fun K hK => ?_)
    simp
    apply hK; clear hK K
    exact L_ret ⟨.inr rfl, _, rfl, h _ _ (.nil _ _) (.refl _)⟩
def lastP (n k : Int) : Int := if okB n k then g (orderS n.toNat k.toNat) (n.toNat - 1) else 0
theorem last_ac (n k : Nat) (h0 : 1 ≤ n) (h1 : n ≤ 1000) (h3 : 1 ≤ k) (h4 : k ≤ 1000000000000) (H : AH) (Q : AV → AH → Prop) (h : ∀ H', Ext H H' → Q (.int .i64 (g (orderS n k) (n - 1))) H') : AC Try.prog 48 [.int .i64 n, .int .i64 k] H Q := by
  refine L_body 12 Try.func48 rfl rfl ?_
  refine L_reg [0, 1] (fun K hK => ?_)
  simp
  apply hK; clear hK K
  have hl := orderS_len n k
  refine L_reg [4] (fun K hK => ?_)
  simp [okFn_low]
  refine order_ac n k h1 h3 h4 _ _ (fun v H1 o1 E1 => ?_)
  obtain ⟨r, off, ver, sz, full, rfl, hld⟩ := o1.own.ls
  obtain ⟨r', rfl, rfl, hrd⟩ := hld (n - 1) (by omega)
  rw [← g_lt (by omega)] at hrd
  have e1 : ((n : Int) - 1) = ((n - 1 : Nat) : Int) := by omega
  have hlt : n - 1 < n := by omega
  simp [e1, wrap_i64 (a := ((n - 1 : Nat) : Int)) (by omega), hl, hlt, hrd]
  apply hK; clear hK K
  exact L_ret ⟨.inr rfl, _, rfl, h H1 E1⟩
theorem Last_ac (n k : Int) (H : AH) (Q : AV → AH → Prop) (h : ∀ H', Ext H H' → Q (.tuple [.int .i64 (lastP n k), .int .i64 (benchE n k)]) H') : AC Try.prog 15 [.int .i64 n, .int .i64 k] H Q := by
  refine L_body 16 Try.func15 rfl rfl ?_
  refine L_reg [0, 1] (fun K hK => ?_)
  simp
  apply hK; clear hK K
  refine L_reg [0, 1, 6] (fun K hK => ?_)
  simp [okFn_low]
  refine check_ac n k _ _ ?_
  simp
  apply hK; clear hK K
  refine L_reg [0, 1, 6, 11] (fun K hK => ?_)
  simp
  apply hK; clear hK K
  unfold lastP at h
  by_cases h0 : okB n k
  · have e0 := benchE_ok h0
    refine L_false (by simp [e0]) ?_
    rw [if_pos h0, e0] at h
    obtain ⟨n, k, rfl, rfl, a1, a2, a3, a4⟩ := okB_nat h0
    simp only [Int.toNat_natCast] at h
    refine L_reg [4, 5] (fun K hK => ?_)
    simp [okFn_low]
    refine last_ac n k (by omega) (by omega) (by omega) (by omega) _ _ (fun H1 E1 => ?_)
    simp
    apply hK; clear hK K
    exact L_ret ⟨.inr rfl, _, rfl, h H1 E1⟩
  · have e0 := benchE_no h0
    rw [if_neg h0] at h
    refine L_true (by simp [e0]) ?_
    refine L_reg [4, 5] (fun K hK => ?_)
    simp
    apply hK; clear hK K
    exact L_ret ⟨.inr rfl, _, rfl, h _ (.refl _)⟩
theorem LastR_ac (n k : Int) (H : AH) (Q : AV → AH → Prop) (h : ∀ H', Ext H H' → Q (.tuple [.int .i64 (lastP n k), .int .i64 (benchE n k)]) H') : AC Try.prog 16 [.int .i64 n, .int .i64 k] H Q := by
  refine L_body 20 Try.func16 rfl rfl ?_
  refine L_reg [0, 1] (fun K hK => ?_)
  simp
  apply hK; clear hK K
  refine L_reg [0, 1, 6] (fun K hK => ?_)
  simp [okFn_low]
  refine counted_ac n k _ _ ?_
  simp
  apply hK; clear hK K
  refine L_reg [0, 1, 6, 11] (fun K hK => ?_)
  simp
  apply hK; clear hK K
  unfold lastP at h
  by_cases h0 : okB n k
  · have e0 := benchE_ok h0
    refine L_false (by simp [e0]) ?_
    rw [if_pos h0, e0] at h
    obtain ⟨n, k, rfl, rfl, a1, a2, a3, a4⟩ := okB_nat h0
    simp only [Int.toNat_natCast] at h
    have hl := orderS_len n k
    refine L_reg [4, 5] (fun K hK => ?_)
    simp [okFn_low]
    refine orderR_ac n k (by omega) (by omega) (by omega) _ _ (fun v H1 o1 E1 => ?_)
    obtain ⟨r, off, ver, sz, full, rfl, hld⟩ := o1.own.ls
    obtain ⟨r', rfl, rfl, hrd⟩ := hld (n - 1) (by omega)
    rw [← g_lt (by omega)] at hrd
    have e1 : ((n : Int) - 1) = ((n - 1 : Nat) : Int) := by omega
    have hlt : n - 1 < n := by omega
    simp [e1, wrap_i64 (a := ((n - 1 : Nat) : Int)) (by omega), hl, hlt, hrd]
    apply hK; clear hK K
    exact L_ret ⟨.inr rfl, _, rfl, h H1 E1⟩
  · have e0 := benchE_no h0
    rw [if_neg h0] at h
    refine L_true (by simp [e0]) ?_
    refine L_reg [4, 5] (fun K hK => ?_)
    simp
    apply hK; clear hK K
    exact L_ret ⟨.inr rfl, _, rfl, h _ (.refl _)⟩
/-- The first place of a number in a list, or -1. -/
def idx (x : Int) : List Int → Int
  | [] => -1
  | y :: l => if x = y then 0 else (if idx x l = -1 then -1 else idx x l + 1)
theorem idx_ge (x : Int) : ∀ l, -1 ≤ idx x l
  | [] => by simp [idx]
  | y :: l => by
    have := idx_ge x l
    simp only [idx]
    split
    · omega
    · split <;> omega
theorem idx_lt (x : Int) : ∀ l, idx x l < l.length
  | [] => by simp [idx]
  | y :: l => by
    have := idx_lt x l
    simp only [idx, List.length_cons]
    split
    · omega
    · split <;> omega
theorem idx_drop {x : Int} {l : List Int} {i : Nat} (hi : i < l.length) (hne : g l i ≠ x) : idx x (l.drop i) = if idx x (l.drop (i + 1)) = -1 then -1 else idx x (l.drop (i + 1)) + 1 := by
  rw [List.drop_eq_getElem_cons hi, ← g_lt hi]
  simp only [idx]
  rw [if_neg (fun e => hne e.symm)]
theorem idx_here {x : Int} {l : List Int} {i : Nat} (hi : i < l.length) (h : g l i = x) : idx x (l.drop i) = 0 := by
  rw [List.drop_eq_getElem_cons hi, ← g_lt hi]
  simp only [idx]
  rw [if_pos h.symm]
/-- The same, from a place on. -/
def off (i : Nat) (y : Int) : Int := if y = -1 then -1 else i + y
theorem off_step {x : Int} {l : List Int} {i : Nat} (hi : i < l.length) (hne : g l i ≠ x) : off i (idx x (l.drop i)) = off (i + 1) (idx x (l.drop (i + 1))) := by
  rw [idx_drop hi hne]
  have := idx_ge x (l.drop (i + 1))
  unfold off
  generalize idx x (l.drop (i + 1)) = y at *
  by_cases h : y = -1
  · simp [h]
  · rw [if_neg h, if_neg h, if_neg (by omega)]; omega
theorem Index_ac (v : AV) (l : List Int) (x : Int) (H : AH) (Q : AV → AH → Prop) (hlen : l.length ≤ 1000000) (hv : Ls H v l) (h : Q (.int .i64 (idx x l)) H) : AC Try.prog 50 [v, .int .i64 x] H Q := by
  obtain ⟨r, of, ver, sz, full, rfl, hld⟩ := hv
  refine L_body 19 Try.func50 rfl rfl ?_
  refine L_reg [0, 1] (fun K hK => ?_)
  simp
  apply hK; clear hK K
  refine L_reg [0, 1, 7, 8] (fun K hK => ?_)
  simp
  apply hK; clear hK K
  refine L_block (L_loopV [8] (fun n vs H' => ∃ i : Nat, n = l.length - i ∧ i ≤ l.length ∧ off i (idx x (l.drop i)) = idx x l ∧ vs = [.int .i64 i] ∧ H = H') _ [.int .i64 0] rfl ⟨0, rfl, by omega, by unfold off; rw [List.drop_zero]; split <;> omega, rfl, rfl⟩ ?_)
  rintro n _ _ ⟨i, rfl, hi, hno, rfl, rfl⟩
  refine L_reg [0, 1, 7, 8, 9] (fun K hK => ?_)
  simp
  apply hK; clear hK K
  refine L_dec (i < l.length) (by simp) (fun hlt => ?_) (fun hge => L_exit ?_)
  · refine L_block ?_
    obtain ⟨r', rfl, rfl, hrd⟩ := hld i hlt
    rw [← g_lt hlt] at hrd
    refine L_reg [0, 1, 5, 7, 8] (fun K hK => ?_)
    simp
    apply hK; clear hK K
    refine L_reg [0, 1, 5, 7, 8, 16] (fun K hK => ?_)
    simp [hrd, hlt]
    apply hK; clear hK K
    by_cases e : x = g l i
    · refine L_true (by simp [← e]) ?_
      rw [idx_here hlt e.symm] at hno
      have e3 : off i 0 = i := by unfold off; rw [if_neg (by omega)]; omega
      rw [e3] at hno
      rw [← hno] at h
      refine L_reg [4] (fun K hK => ?_)
      simp
      apply hK; clear hK K
      exact L_ret ⟨.inr rfl, _, rfl, h⟩
    · refine L_false (by simp [e]) ?_
      rw [off_step hlt (fun h => e h.symm)] at hno
      refine L_reg [0, 1, 7, 8] (fun K hK => ?_)
      simp [wrap_i64 (a := (i : Int) + 1) (by omega)]
      apply hK; clear hK K
      exact ⟨l.length - (i + 1), [.int .i64 (i + 1 : Nat)], by omega, by simp, i + 1, rfl, by omega, hno, rfl, rfl⟩
  · have hi' : i = l.length := by omega
    subst hi'
    rw [List.drop_length] at hno
    rw [← hno] at h
    refine L_reg [4] (fun K hK => ?_)
    simp
    apply hK; clear hK K
    exact L_ret ⟨.inr rfl, _, rfl, h⟩
theorem place_ac (v : AV) (l : List Int) (x : Int) (H : AH) (Q : AV → AH → Prop) (hlen : l.length ≤ 1000000) (hv : Ls H v l) (h : Q (.int .i64 (idx x l)) H) : AC Try.prog 52 [v, .int .i64 x] H Q := by
  obtain ⟨r, of, ver, sz, full, rfl, hld⟩ := hv
  refine L_body 19 Try.func52 rfl rfl ?_
  refine L_reg [0, 1] (fun K hK => ?_)
  simp
  apply hK; clear hK K
  refine L_reg [0, 1, 5] (fun K hK => ?_)
  simp
  apply hK; clear hK K
  refine L_block (L_loopV [5] (fun n vs H' => ∃ i : Nat, n = l.length - i ∧ i ≤ l.length ∧ off i (idx x (l.drop i)) = idx x l ∧ vs = [.int .i64 i] ∧ H = H') _ [.int .i64 0] rfl ⟨0, rfl, by omega, by unfold off; rw [List.drop_zero]; split <;> omega, rfl, rfl⟩ ?_)
  rintro n _ _ ⟨i, rfl, hi, hno, rfl, rfl⟩
  refine L_reg [0, 1, 5, 9] (fun K hK => ?_)
  simp
  apply hK; clear hK K
  refine L_dec (i < l.length) (by simp) (fun hlt => ?_) (fun hge => L_exit ?_)
  · refine L_block ?_
    obtain ⟨r', rfl, rfl, hrd⟩ := hld i hlt
    rw [← g_lt hlt] at hrd
    refine L_reg [0, 1, 5, 17] (fun K hK => ?_)
    simp [hrd, hlt]
    apply hK; clear hK K
    by_cases e : x = g l i
    · refine L_true (by simp [← e]) ?_
      rw [idx_here hlt e.symm] at hno
      have e3 : off i 0 = i := by unfold off; rw [if_neg (by omega)]; omega
      rw [e3] at hno
      rw [← hno] at h
      refine L_reg [4] (fun K hK => ?_)
      simp
      apply hK; clear hK K
      exact L_ret ⟨.inr rfl, _, rfl, h⟩
    · refine L_false (by simp; exact fun h => e h.symm) ?_
      rw [off_step hlt (fun h => e h.symm)] at hno
      refine L_reg [0, 1, 5] (fun K hK => ?_)
      simp [wrap_i64 (a := (i : Int) + 1) (by omega)]
      apply hK; clear hK K
      exact ⟨l.length - (i + 1), [.int .i64 (i + 1 : Nat)], by omega, by simp, i + 1, rfl, by omega, hno, rfl, rfl⟩
  · have hi' : i = l.length := by omega
    subst hi'
    rw [List.drop_length] at hno
    rw [← hno] at h
    refine L_reg [4] (fun K hK => ?_)
    simp
    apply hK; clear hK K
    exact L_ret ⟨.inr rfl, _, rfl, h⟩
theorem oneE_ok {n k x : Int} (h : okB n k) (hx : 0 ≤ x ∧ x < n) : oneE n k x = 0 := by unfold oneE; rw [if_pos h, if_pos hx]
theorem oneE_no {n k x : Int} (h : okB n k) (hx : ¬ (0 ≤ x ∧ x < n)) : oneE n k x = 2 := by unfold oneE; rw [if_pos h, if_neg hx]
theorem oneE_none {n k x : Int} (h : ¬ okB n k) : oneE n k x = 1 := by unfold oneE; rw [if_neg h]
def okO (n k x : Int) : Prop := okB n k ∧ 0 ≤ x ∧ x < n
instance (n k x : Int) : Decidable (okO n k x) := by unfold okO; infer_instance
theorem oneE_zero {n k x : Int} (h : okO n k x) : oneE n k x = 0 := oneE_ok h.1 h.2
theorem oneE_nz {n k x : Int} (h : ¬ okO n k x) : oneE n k x ≠ 0 := by
  unfold oneE
  by_cases h1 : okB n k
  · rw [if_pos h1, if_neg (fun h2 => h ⟨h1, h2⟩)]; decide
  · rw [if_neg h1]; decide
def whenP (n k x : Int) : Int := if okO n k x then idx x (orderS n.toNat k.toNat) else 0
def whoP (n k x : Int) : Int := if okO n k x then g (orderS n.toNat k.toNat) x.toNat else 0
theorem When_ac (n k x : Int) (H : AH) (Q : AV → AH → Prop) (h : ∀ H', Ext H H' → Q (.tuple [.int .i64 (whenP n k x), .int .i64 (oneE n k x)]) H') : AC Try.prog 18 [.int .i64 n, .int .i64 k, .int .i64 x] H Q := by
  refine L_body 21 Try.func18 rfl rfl ?_
  refine L_reg [0, 1, 2] (fun K hK => ?_)
  simp
  apply hK; clear hK K
  refine L_reg [0, 1, 2, 8] (fun K hK => ?_)
  simp [okFn_low]
  refine checkOne_ac n k x _ _ ?_
  simp
  apply hK; clear hK K
  refine L_reg [0, 1, 2, 8, 14] (fun K hK => ?_)
  simp
  apply hK; clear hK K
  unfold whenP at h
  by_cases h0 : okO n k x
  · have e0 := oneE_zero h0
    refine L_false (by simp [e0]) ?_
    rw [if_pos h0, e0] at h
    obtain ⟨n, k, rfl, rfl, a1, a2, a3, a4⟩ := okB_nat h0.1
    simp only [Int.toNat_natCast] at h
    have hl := orderS_len n k
    refine L_reg [6, 7] (fun K hK => ?_)
    simp [okFn_low]
    refine order_ac n k (by omega) (by omega) (by omega) _ _ (fun v H1 o1 E1 => ?_)
    simp [okFn_low]
    refine Index_ac v (orderS n k) x _ _ (by omega) o1.own.ls ?_
    simp
    apply hK; clear hK K
    exact L_ret ⟨.inr rfl, _, rfl, h H1 E1⟩
  · have e0 := oneE_nz h0
    rw [if_neg h0] at h
    refine L_true (by simp [e0]) ?_
    refine L_reg [6, 7] (fun K hK => ?_)
    simp
    apply hK; clear hK K
    exact L_ret ⟨.inr rfl, _, rfl, h _ (.refl _)⟩
theorem Who_ac (n k x : Int) (H : AH) (Q : AV → AH → Prop) (h : ∀ H', Ext H H' → Q (.tuple [.int .i64 (whoP n k x), .int .i64 (oneE n k x)]) H') : AC Try.prog 20 [.int .i64 n, .int .i64 k, .int .i64 x] H Q := by
  refine L_body 22 Try.func20 rfl rfl ?_
  refine L_reg [0, 1, 2] (fun K hK => ?_)
  simp
  apply hK; clear hK K
  refine L_reg [0, 1, 2, 8] (fun K hK => ?_)
  simp [okFn_low]
  refine checkOne_ac n k x _ _ ?_
  simp
  apply hK; clear hK K
  refine L_reg [0, 1, 2, 8, 14] (fun K hK => ?_)
  simp
  apply hK; clear hK K
  unfold whoP at h
  by_cases h0 : okO n k x
  · have e0 := oneE_zero h0
    refine L_false (by simp [e0]) ?_
    rw [if_pos h0, e0] at h
    obtain ⟨n, k, rfl, rfl, a1, a2, a3, a4⟩ := okB_nat h0.1
    obtain ⟨x, rfl⟩ : ∃ y : Nat, x = y := ⟨x.toNat, by have := h0.2; omega⟩
    have hx : x < n := by have := h0.2; omega
    simp only [Int.toNat_natCast] at h
    have hl := orderS_len n k
    refine L_reg [6, 7] (fun K hK => ?_)
    simp [okFn_low]
    refine order_ac n k (by omega) (by omega) (by omega) _ _ (fun v H1 o1 E1 => ?_)
    obtain ⟨r, off, ver, sz, full, rfl, hld⟩ := o1.own.ls
    obtain ⟨r', rfl, rfl, hrd⟩ := hld x (by omega)
    rw [← g_lt (by omega)] at hrd
    simp [hl, hx, hrd]
    apply hK; clear hK K
    exact L_ret ⟨.inr rfl, _, rfl, h H1 E1⟩
  · have e0 := oneE_nz h0
    rw [if_neg h0] at h
    refine L_true (by simp [e0]) ?_
    refine L_reg [6, 7] (fun K hK => ?_)
    simp
    apply hK; clear hK K
    exact L_ret ⟨.inr rfl, _, rfl, h _ (.refl _)⟩
theorem WhenR_ac (n k x : Int) (H : AH) (Q : AV → AH → Prop) (h : ∀ H', Ext H H' → Q (.tuple [.int .i64 (whenP n k x), .int .i64 (oneE n k x)]) H') : AC Try.prog 19 [.int .i64 n, .int .i64 k, .int .i64 x] H Q := by
  refine L_body 29 Try.func19 rfl rfl ?_
  refine L_reg [0, 1, 2] (fun K hK => ?_)
  simp
  apply hK; clear hK K
  refine L_reg [0, 1, 2, 8] (fun K hK => ?_)
  simp [okFn_low]
  refine counted_ac n k _ _ ?_
  simp
  apply hK; clear hK K
  unfold whenP at h
  by_cases hB : okB n k
  · have eB := benchE_ok hB
    obtain ⟨n, k, rfl, rfl, a1, a2, a3, a4⟩ := okB_nat hB
    simp only [Int.toNat_natCast] at h
    have w1 : IntKind.i64.wrap ((n : Int) - 1) = (n : Int) - 1 := wrap_i64 (by omega)
    have hl := orderS_len n k
    by_cases hx : 0 ≤ x ∧ x < (n : Int)
    · rw [if_pos ⟨hB, hx⟩, oneE_ok hB hx] at h
      have hx2 : 0 ≤ x ∧ x ≤ (n : Int) - 1 := by omega
      refine L_reg [0, 1, 2, 8, 20] (fun K hK => ?_)
      simp [okFn_low, eB, w1]
      refine in_ac _ _ _ _ _ ?_
      simp [decide_eq_true hx2, pickV]
      apply hK; clear hK K
      refine L_false (by simp) ?_
      refine L_reg [0, 1, 2, 8, 22] (fun K hK => ?_)
      simp
      apply hK; clear hK K
      refine L_false (by simp) ?_
      refine L_reg [6, 7] (fun K hK => ?_)
      simp [okFn_low]
      refine orderR_ac n k (by omega) (by omega) (by omega) _ _ (fun v H1 o1 E1 => ?_)
      simp [okFn_low]
      refine place_ac v (orderS n k) x _ _ (by omega) o1.own.ls ?_
      simp
      apply hK; clear hK K
      exact L_ret ⟨.inr rfl, _, rfl, h H1 E1⟩
    · rw [if_neg (fun e => hx e.2), oneE_no hB hx] at h
      have hx2 : ¬ (0 ≤ x ∧ x ≤ (n : Int) - 1) := by omega
      refine L_reg [0, 1, 2, 8, 20] (fun K hK => ?_)
      simp [okFn_low, eB, w1]
      refine in_ac _ _ _ _ _ ?_
      simp [decide_eq_false hx2, pickV]
      apply hK; clear hK K
      refine L_true (by simp) ?_
      refine L_reg [0, 1, 2, 8] (fun K hK => ?_)
      simp
      apply hK; clear hK K
      refine L_reg [0, 1, 2, 8, 22] (fun K hK => ?_)
      simp
      apply hK; clear hK K
      refine L_true (by simp) ?_
      refine L_reg [6, 7] (fun K hK => ?_)
      simp
      apply hK; clear hK K
      exact L_ret ⟨.inr rfl, _, rfl, h _ (.refl _)⟩
  · have eB := benchE_no hB
    rw [if_neg (fun e => hB e.1), oneE_none hB] at h
    refine L_reg [0, 1, 2, 8, 20] (fun K hK => ?_)
    simp [eB, pickV]
    apply hK; clear hK K
    refine L_false (by simp) ?_
    refine L_reg [0, 1, 2, 8, 22] (fun K hK => ?_)
    simp
    apply hK; clear hK K
    refine L_true (by simp) ?_
    refine L_reg [6, 7] (fun K hK => ?_)
    simp
    apply hK; clear hK K
    exact L_ret ⟨.inr rfl, _, rfl, h _ (.refl _)⟩
theorem WhoR_ac (n k x : Int) (H : AH) (Q : AV → AH → Prop) (h : ∀ H', Ext H H' → Q (.tuple [.int .i64 (whoP n k x), .int .i64 (oneE n k x)]) H') : AC Try.prog 21 [.int .i64 n, .int .i64 k, .int .i64 x] H Q := by
  refine L_body 30 Try.func21 rfl rfl ?_
  refine L_reg [0, 1, 2] (fun K hK => ?_)
  simp
  apply hK; clear hK K
  refine L_reg [0, 1, 2, 8] (fun K hK => ?_)
  simp [okFn_low]
  refine counted_ac n k _ _ ?_
  simp
  apply hK; clear hK K
  unfold whoP at h
  by_cases hB : okB n k
  · have eB := benchE_ok hB
    obtain ⟨n, k, rfl, rfl, a1, a2, a3, a4⟩ := okB_nat hB
    simp only [Int.toNat_natCast] at h
    have w1 : IntKind.i64.wrap ((n : Int) - 1) = (n : Int) - 1 := wrap_i64 (by omega)
    have hl := orderS_len n k
    by_cases hx : 0 ≤ x ∧ x < (n : Int)
    · rw [if_pos ⟨hB, hx⟩, oneE_ok hB hx] at h
      have hx2 : 0 ≤ x ∧ x ≤ (n : Int) - 1 := by omega
      refine L_reg [0, 1, 2, 8, 20] (fun K hK => ?_)
      simp [okFn_low, eB, w1]
      refine in_ac _ _ _ _ _ ?_
      simp [decide_eq_true hx2, pickV]
      apply hK; clear hK K
      refine L_false (by simp) ?_
      refine L_reg [0, 1, 2, 8, 22] (fun K hK => ?_)
      simp
      apply hK; clear hK K
      refine L_false (by simp) ?_
      obtain ⟨x, rfl⟩ : ∃ y : Nat, x = y := ⟨x.toNat, by omega⟩
      simp only [Int.toNat_natCast] at h
      refine L_reg [6, 7] (fun K hK => ?_)
      simp [okFn_low]
      refine orderR_ac n k (by omega) (by omega) (by omega) _ _ (fun v H1 o1 E1 => ?_)
      obtain ⟨r, off, ver, sz, full, rfl, hld⟩ := o1.own.ls
      obtain ⟨r', rfl, rfl, hrd⟩ := hld x (by omega)
      rw [← g_lt (by omega)] at hrd
      have hx3 : x < n := by omega
      simp [hl, hx3, hrd]
      apply hK; clear hK K
      exact L_ret ⟨.inr rfl, _, rfl, h H1 E1⟩
    · rw [if_neg (fun e => hx e.2), oneE_no hB hx] at h
      have hx2 : ¬ (0 ≤ x ∧ x ≤ (n : Int) - 1) := by omega
      refine L_reg [0, 1, 2, 8, 20] (fun K hK => ?_)
      simp [okFn_low, eB, w1]
      refine in_ac _ _ _ _ _ ?_
      simp [decide_eq_false hx2, pickV]
      apply hK; clear hK K
      refine L_true (by simp) ?_
      refine L_reg [0, 1, 2, 8] (fun K hK => ?_)
      simp
      apply hK; clear hK K
      refine L_reg [0, 1, 2, 8, 22] (fun K hK => ?_)
      simp
      apply hK; clear hK K
      refine L_true (by simp) ?_
      refine L_reg [6, 7] (fun K hK => ?_)
      simp
      apply hK; clear hK K
      exact L_ret ⟨.inr rfl, _, rfl, h _ (.refl _)⟩
  · have eB := benchE_no hB
    rw [if_neg (fun e => hB e.1), oneE_none hB] at h
    refine L_reg [0, 1, 2, 8, 20] (fun K hK => ?_)
    simp [eB, pickV]
    apply hK; clear hK K
    refine L_false (by simp) ?_
    refine L_reg [0, 1, 2, 8, 22] (fun K hK => ?_)
    simp
    apply hK; clear hK K
    refine L_true (by simp) ?_
    refine L_reg [6, 7] (fun K hK => ?_)
    simp
    apply hK; clear hK K
    exact L_ret ⟨.inr rfl, _, rfl, h _ (.refl _)⟩
end Go.Proofs.Ytmlhekfkniibmaa

/- How often a roller is counted; how many orders are possible. -/
namespace Go.Proofs.Ytmlhekfkniibmaa
open Go Go.Proofs.Ytmlhekfkniibmaa.AX

theorem rot_perm {l : List Int} {a : Nat} (h : a < l.length) : (g l a :: rot l a).Perm l := by
  have e : l = l.take a ++ (g l a :: l.drop (a + 1)) := by
    rw [g_lt h, ← List.drop_eq_getElem_cons h, List.take_append_drop]
  have h1 : (g l a :: rot l a).Perm (g l a :: (l.take a ++ l.drop (a + 1))) := List.Perm.cons _ List.perm_append_comm
  have h2 : (l.take a ++ (g l a :: l.drop (a + 1))).Perm (g l a :: (l.take a ++ l.drop (a + 1))) := List.perm_middle
  have h3 := h1.trans h2.symm
  rw [← e] at h3
  exact h3
theorem rot_nodup {l : List Int} {a : Nat} (h : a < l.length) (hd : l.Nodup) : g l a ∉ rot l a ∧ (rot l a).Nodup := by
  have := (rot_perm h).nodup_iff.2 hd
  rw [List.nodup_cons] at this
  exact this
theorem rot_mem {l : List Int} {a : Nat} (h : a < l.length) {x : Int} : x ∈ l ↔ x = g l a ∨ x ∈ rot l a := by
  rw [← (rot_perm h).mem_iff, List.mem_cons]
theorem idx_none {x : Int} : ∀ {l : List Int}, x ∉ l → idx x l = -1
  | [], _ => rfl
  | y :: l, h => by
    simp only [List.mem_cons, not_or] at h
    simp only [idx]
    rw [if_neg h.1, idx_none h.2, if_pos rfl]
theorem idx_mem {x : Int} : ∀ {l : List Int}, x ∈ l → 0 ≤ idx x l
  | y :: l, h => by
    simp only [idx]
    split
    · omega
    · rename_i hne
      have : x ∈ l := by
        rcases List.mem_cons.1 h with e | e
        · exact absurd e hne
        · exact e
      have := idx_mem this
      split <;> omega
theorem idx_get {x : Int} : ∀ {l : List Int} {p : Nat}, idx x l = p → p < l.length ∧ g l p = x
  | [], p, h => by simp only [idx] at h; omega
  | y :: l, p, h => by
    simp only [idx] at h
    split at h
    · rename_i e
      have : p = 0 := by omega
      subst this
      exact ⟨by simp, by simp [g, e]⟩
    · split at h
      · omega
      · have h0 := idx_ge x l
        obtain ⟨q, hq⟩ : ∃ q : Nat, idx x l = q := ⟨(idx x l).toNat, by omega⟩
        obtain ⟨h1, h2⟩ := idx_get hq
        have : p = q + 1 := by omega
        subst this
        exact ⟨by simp; omega, by simpa [g] using h2⟩
theorem g_inj {l : List Int} (hd : l.Nodup) {p q : Nat} (hp : p < l.length) (hq : q < l.length) (h : g l p = g l q) : p = q := by
  rw [g_lt hp, g_lt hq] at h
  have h1 := List.pairwise_iff_getElem.1 hd
  rcases Nat.lt_trichotomy p q with h2 | h2 | h2
  · exact absurd h (h1 p q hp hq h2)
  · exact h2
  · exact absurd h.symm (h1 q p hq hp h2)
theorem allS_nodup (n : Nat) : (allS n).Nodup := List.Pairwise.map Int.ofNat (fun _ _ h e => h (Int.ofNat.inj e)) List.nodup_range
theorem mem_allS {n : Nat} {x : Int} : x ∈ allS n ↔ 0 ≤ x ∧ x < n := by
  simp only [allS, List.mem_map, List.mem_range]
  constructor
  · rintro ⟨i, hi, rfl⟩
    have : Int.ofNat i = (i : Int) := rfl
    omega
  · rintro ⟨h1, h2⟩; exact ⟨x.toNat, by omega, by have : Int.ofNat x.toNat = (x.toNat : Int) := rfl; omega⟩
def cntS (k : Nat) (x : Int) : Nat → List Int → Nat
  | 0, _ => 0
  | m + 1, l => if idx x l = -1 then 0 else (k + m - (idx x l).toNat) / (m + 1) + cntS k x m (rot l ((k - 1) % (m + 1)))
theorem cntS_none {k : Nat} {x : Int} : ∀ {m : Nat} {l : List Int}, idx x l = -1 → cntS k x m l = 0
  | 0, _, _ => rfl
  | m + 1, l, h => by simp only [cntS]; rw [if_pos h]
theorem IndexS_ac (b : Bool) (r ver off n : Nat) (x : Int) (p l : List Int) (H : AH) (Q : AV → AH → Prop) (hr : Rw r ver H (p ++ l)) (hp : p.length = off) (hn : l.length = n) (hlen : n ≤ 1000000) (h : Q (.int .i64 (idx x l)) H) : AC Try.prog 73 [SV b r off n ver, .int .i64 x] H Q := by
  refine L_body 19 Try.func73 rfl rfl ?_
  refine L_reg [0, 1] (fun K hK => ?_)
  simp
  apply hK; clear hK K
  refine L_reg [0, 1, 7, 8] (fun K hK => ?_)
  simp
  apply hK; clear hK K
  refine L_block (L_loopV [8] (fun m vs H' => ∃ i : Nat, m = n - i ∧ i ≤ n ∧ Go.Proofs.Ytmlhekfkniibmaa.off i (idx x (l.drop i)) = idx x l ∧ vs = [.int .i64 i] ∧ H = H') _ [.int .i64 0] rfl ⟨0, rfl, by omega, by unfold Go.Proofs.Ytmlhekfkniibmaa.off; rw [List.drop_zero]; split <;> omega, rfl, rfl⟩ ?_)
  rintro m _ _ ⟨i, rfl, hi, hno, rfl, rfl⟩
  refine L_reg [0, 1, 7, 8, 9] (fun K hK => ?_)
  simp
  apply hK; clear hK K
  refine L_dec (i < n) (by simp) (fun hlt => ?_) (fun hge => L_exit ?_)
  · refine L_block ?_
    have hrd := hr.ld (i := off + i) (by simp; omega)
    rw [g_app, if_neg (by omega), hp, Nat.add_sub_cancel_left] at hrd
    have hil : i < l.length := by omega
    refine L_reg [0, 1, 5, 7, 8] (fun K hK => ?_)
    simp
    apply hK; clear hK K
    refine L_reg [0, 1, 5, 7, 8, 16] (fun K hK => ?_)
    simp [hrd, hlt]
    apply hK; clear hK K
    by_cases e : x = g l i
    · refine L_true (by simp [← e]) ?_
      rw [idx_here hil e.symm] at hno
      have e3 : Go.Proofs.Ytmlhekfkniibmaa.off i 0 = i := by unfold Go.Proofs.Ytmlhekfkniibmaa.off; rw [if_neg (by omega)]; omega
      rw [e3] at hno
      rw [← hno] at h
      refine L_reg [4] (fun K hK => ?_)
      simp
      apply hK; clear hK K
      exact L_ret ⟨.inr rfl, _, rfl, h⟩
    · refine L_false (by simp [e]) ?_
      rw [off_step hil (fun h => e h.symm)] at hno
      refine L_reg [0, 1, 7, 8] (fun K hK => ?_)
      simp [wrap_i64 (a := (i : Int) + 1) (by omega)]
      apply hK; clear hK K
      exact ⟨n - (i + 1), [.int .i64 (i + 1 : Nat)], by omega, by simp, i + 1, rfl, by omega, hno, rfl, rfl⟩
  · have hi' : i = l.length := by omega
    subst hi'
    rw [List.drop_length] at hno
    rw [← hno] at h
    refine L_reg [4] (fun K hK => ?_)
    simp
    apply hK; clear hK K
    exact L_ret ⟨.inr rfl, _, rfl, h⟩
theorem times_ac (b : Bool) (r off n ver p k : Nat) (hn : n ≤ 1000000) (hk : 1 ≤ k) (hk2 : k ≤ 1000000000000) (hp : p < n) (H : AH) (Q : AV → AH → Prop) (h : Q (.int .i64 ((k + (n - 1) - p) / n : Nat)) H) : AC Try.prog 74 [SV b r off n ver, .int .i64 p, .int .i64 k] H Q := by
  refine L_body 17 Try.func74 rfl rfl ?_
  refine L_reg [0, 1, 2] (fun K hK => ?_)
  simp
  apply hK; clear hK K
  have hne : n ≠ 0 := by omega
  have e2 : ((k : Int) - 1 - p + n).tdiv n = (((k + (n - 1) - p) / n : Nat) : Int) := by
    rw [show (k : Int) - 1 - p + n = ((k + (n - 1) - p : Nat) : Int) by omega, Int.tdiv_eq_ediv_of_nonneg (by omega)]; rfl
  have hle := Nat.div_le_self (k + (n - 1) - p) n
  obtain ⟨q, hq⟩ : ∃ q : Nat, q = (k + (n - 1) - p) / n := ⟨_, rfl⟩
  rw [← hq] at e2 h hle
  refine L_reg [6] (fun K hK => ?_)
  simp [wrap_i64 (a := (k : Int) - 1) (by omega), wrap_i64 (a := (k : Int) - 1 - p) (by omega), wrap_i64 (a := (k : Int) - 1 - p + n) (by omega), hne, e2, wrap_i64 (a := (q : Int)) (by omega)]
  apply hK; clear hK K
  exact L_ret ⟨.inr rfl, _, rfl, h⟩
theorem times_le {k m p : Nat} (hk : 1 ≤ k) : (k + m - p) / (m + 1) ≤ k := by
  apply Nat.le_of_lt_succ
  rw [Nat.div_lt_iff_lt_mul (by omega)]
  have : m + 1 ≤ (k.succ) * (m + 1) - k * (m + 1) := by rw [Nat.succ_mul]; omega
  have h2 : k ≤ k * (m + 1) := Nat.le_mul_of_pos_right k (by omega)
  have h3 : k.succ * (m + 1) = k * (m + 1) + (m + 1) := Nat.succ_mul _ _
  omega
def cntN (n k : Nat) (x : Int) : Nat := cntS k x n (allS n)
set_option maxRecDepth 100000 in
set_option maxHeartbeats 1000000 in
theorem countedI_ac (n k : Nat) (x : Int) (h1 : n ≤ 100) (h3 : 1 ≤ k) (h4 : k ≤ 1000000000000) (hx : 0 ≤ x ∧ x < n) (H : AH) (Q : AV → AH → Prop) (h : ∀ H', Ext H H' → Q (.int .i64 (cntN n k x)) H') : AC Try.prog 53 [.int .i64 n, .int .i64 k, .int .i64 x] H Q := by
  refine L_body 36 Try.func53 rfl rfl ?_
  refine L_reg [0, 1, 2] (fun K hK => ?_)
  simp
  apply hK; clear hK K
  refine L_reg [0, 1, 2, 7] (fun K hK => ?_)
  simp
  apply hK; clear hK K
  refine L_reg [0, 1, 2, 7, 8] (fun K hK => ?_)
  simp [okFn_low]
  refine full_ac n (by omega) _ _ (fun H1 r1 E1 => ?_)
  simp
  apply hK; clear hK K
  refine L_reg [1, 2, 7, 8, 13, 14] (fun K hK => ?_)
  simp
  apply hK; clear hK K
  refine L_block (L_loopV [7, 8, 14] (fun m vs H' => ∃ (i : Nat) (b : Bool) (t : Nat) (done sit : List Int), m = n - i ∧ i ≤ n ∧ done.length = i ∧ sit.length = n - i ∧ x ∈ sit ∧ sit.Nodup ∧ t + cntS k x (n - i) sit = cntN n k x ∧ t ≤ i * k ∧ vs = [.int .i64 t, SV b H.length i (n - i) 0, .int .i64 i] ∧ Rw H.length 0 H' (done ++ sit) ∧ Ext H H') _ [.int .i64 0, SV false H.length 0 n 0, .int .i64 0] rfl ⟨0, false, 0, [], allS n, rfl, by omega, rfl, by simp [allS], mem_allS.2 hx, allS_nodup n, by simp [cntN], by omega, rfl, r1, E1⟩ ?_)
  rintro m _ H2 ⟨i, b, t, done, sit, rfl, hi, hdl, hsl, hmem, hnd, hcnt, htk, rfl, hrow, hE⟩
  refine L_reg [1, 2, 7, 8, 13, 14, 15] (fun K hK => ?_)
  simp
  apply hK; clear hK K
  have hix := idx_mem hmem
  obtain ⟨p, hp⟩ : ∃ p : Nat, idx x sit = p := ⟨(idx x sit).toNat, by omega⟩
  obtain ⟨hpl, hpg⟩ := idx_get hp
  refine L_dec (i < n) (by simp) (fun hlt => ?_) (fun hge => L_exit ?_)
  · refine L_block ?_
    obtain ⟨j, hj⟩ : ∃ j, n - i = j + 1 := ⟨n - i - 1, by omega⟩
    have hlt2 : (k - 1) % (j + 1) < j + 1 := Nat.mod_lt _ (by omega)
    rw [hj] at hcnt hsl ⊢
    unfold cntS at hcnt
    rw [if_neg (by omega), hp, Int.toNat_natCast] at hcnt
    have hle := times_le (k := k) (m := j) (p := p) h3
    have hik : i * k ≤ 100 * 1000000000000 := Nat.mul_le_mul (by omega) h4
    have hsk : (i + 1) * k = i * k + k := Nat.succ_mul _ _
    have htm := times_ac b H.length i (j + 1) 0 p k (by omega) h3 h4 (by omega)
    rw [Nat.add_sub_cancel] at htm
    have htm2 := htm H2
    generalize hy : (k + j - p) / (j + 1) = y at *
    obtain ⟨a, ha⟩ : ∃ a : Nat, a = (k - 1) % (j + 1) := ⟨_, rfl⟩
    have hrc := reached_ac b H.length i (j + 1) 0 k (by omega) h3 h4 H2
    rw [← ha] at hlt2 hcnt hrc
    refine L_reg [1, 2, 7, 8, 9, 13, 14] (fun K hK => ?_)
    simp [okFn_low]
    refine IndexS_ac b H.length 0 i (j + 1) x done sit _ _ hrow hdl hsl (by omega) ?_
    simp
    apply hK; clear hK K
    rw [hp]
    refine L_reg [1, 2, 7, 8, 9, 13, 14] (fun K hK => ?_)
    simp [okFn_low]
    refine htm2 _ ?_
    simp [wrap_i64 (a := (t : Int) + y) (by omega)]
    apply hK; clear hK K
    refine L_reg [1, 2, 7, 8, 9, 10, 13, 14] (fun K hK => ?_)
    simp [okFn_low]
    refine hrc _ ?_
    simp
    apply hK; clear hK K
    refine L_reg [1, 2, 7, 8, 10, 13, 14, 30] (fun K hK => ?_)
    simp
    apply hK; clear hK K
    by_cases hap : a = p
    · refine L_true (by simp [hap]) (L_exit ?_)
      have hno : idx x (rot sit a) = -1 := by
        apply idx_none
        have := (rot_nodup (l := sit) (a := a) (by omega) hnd).1
        rw [hap, hpg] at this
        rw [hap]; exact this
      rw [cntS_none hno, Nat.add_zero] at hcnt
      refine L_reg [6] (fun K hK => ?_)
      simp
      apply hK; clear hK K
      have := h _ hE
      rw [← hcnt] at this
      exact L_ret ⟨.inr rfl, _, rfl, by simpa using this⟩
    · refine L_false (by simp; omega) ?_
      refine L_reg [1, 2, 7, 8, 13, 14] (fun K hK => ?_)
      simp [okFn_low]
      refine leave_ac b H.length 0 a i (j + 1) done sit _ _ hrow hdl hsl hlt2 (by omega) (fun H3 r3 k3 => ?_)
      simp
      apply hK; clear hK K
      refine L_reg [1, 2, 7, 8, 13, 14] (fun K hK => ?_)
      simp [wrap_i64 (a := (i : Int) + 1) (by omega)]
      apply hK; clear hK K
      have hm : x ∈ rot sit a := by
        rcases (rot_mem (l := sit) (a := a) (by omega)).1 hmem with e | e
        · exact absurd (g_inj hnd (by omega) hpl (by rw [hpg]; exact e.symm)) hap
        · exact e
      refine ⟨n - (i + 1), [.int .i64 (t + y : Nat), SV true H.length (i + 1) j 0, .int .i64 (i + 1 : Nat)], by omega, by simp, i + 1, true, t + y, done ++ [g sit a], rot sit a, rfl, by omega, by simp [hdl], by rw [rot_len (by omega)]; omega, hm, (rot_nodup (by omega) hnd).2, ?_, by omega, ?_, r3, k3.new hE (Nat.le_refl _)⟩
      · rw [show n - (i + 1) = j by omega]; omega
      · rw [show n - (i + 1) = j by omega]
  · omega
theorem rem_split {k m p : Nat} (hp : p < m + 1) : (k + m - p) / (m + 1) = k / (m + 1) + (if p < k % (m + 1) then 1 else 0) := by
  have h1 := Nat.div_add_mod k (m + 1)
  have h2 := Nat.mod_lt k (show 0 < m + 1 by omega)
  generalize k % (m + 1) = r at *
  generalize k / (m + 1) = q at *
  subst h1
  have e : (m + 1) * q + r + m - p = (r + m - p) + (m + 1) * q := by omega
  rw [e, Nat.add_mul_div_left _ _ (by omega)]
  split
  · rename_i h; rw [Nat.div_eq_of_lt_le (k := 1) (by omega) (by omega)]; omega
  · rename_i h; rw [Nat.div_eq_of_lt (by omega)]; omega
set_option maxRecDepth 100000 in
set_option maxHeartbeats 1000000 in
theorem CountedR_ac (n k x : Int) (H : AH) (Q : AV → AH → Prop) (h : ∀ H', Ext H H' → Q (.tuple [.int .i64 (if okO n k x then (cntN n.toNat k.toNat x : Int) else 0), .int .i64 (oneE n k x)]) H') : AC Try.prog 24 [.int .i64 n, .int .i64 k, .int .i64 x] H Q := by
  refine L_body 56 Try.func24 rfl rfl ?_
  refine L_reg [0, 1, 2] (fun K hK => ?_)
  simp
  apply hK; clear hK K
  refine L_reg [0, 1, 2, 8] (fun K hK => ?_)
  simp [okFn_low]
  refine counted_ac n k _ _ ?_
  simp
  apply hK; clear hK K
  by_cases hB : okB n k
  · have eB := benchE_ok hB
    obtain ⟨n, k, rfl, rfl, a1, a2, a3, a4⟩ := okB_nat hB
    simp only [Int.toNat_natCast] at h
    have w1 : IntKind.i64.wrap ((n : Int) - 1) = (n : Int) - 1 := wrap_i64 (by omega)
    by_cases hx : 0 ≤ x ∧ x < (n : Int)
    · rw [if_pos ⟨hB, hx⟩, oneE_ok hB hx] at h
      have hx2 : 0 ≤ x ∧ x ≤ (n : Int) - 1 := by omega
      refine L_reg [0, 1, 2, 8, 22] (fun K hK => ?_)
      simp [okFn_low, eB, w1]
      refine in_ac _ _ _ _ _ ?_
      simp [decide_eq_true hx2, pickV]
      apply hK; clear hK K
      refine L_false (by simp) ?_
      refine L_reg [0, 1, 2, 8, 24] (fun K hK => ?_)
      simp
      apply hK; clear hK K
      refine L_false (by simp) ?_
      refine L_reg [0, 1, 2, 9] (fun K hK => ?_)
      simp
      apply hK; clear hK K
      refine L_reg [1, 2, 9, 10] (fun K hK => ?_)
      simp [okFn_low]
      refine all_ac n (by omega) _ _ (fun w0 H0 o0 E0 => ?_)
      simp
      apply hK; clear hK K
      refine L_block (L_loopV [9, 10] (fun m vs H' => ∃ (j : Nat) (t : Nat) (w : AV) (sit : List Int), m = j ∧ j ≤ n ∧ sit.length = j ∧ t + cntS k x j sit = cntN n k x ∧ t ≤ (n - j) * k ∧ vs = [.int .i64 t, w] ∧ Ls H' w sit ∧ Ext H H') _ [.int .i64 0, w0] rfl ⟨n, 0, w0, allS n, rfl, by omega, by simp [allS], by simp [cntN], by omega, rfl, o0.own.ls, E0⟩ ?_)
      rintro m _ H1 ⟨j, t, w, sit, rfl, hj, hsl, hcnt, htk, rfl, hw, hE⟩
      have hw0 := hw
      refine L_reg [1, 2, 9, 10, 31] (fun K hK => ?_)
      simp [okFn_low]
      refine place_ac w sit x _ _ (by omega) hw ?_
      simp
      apply hK; clear hK K
      by_cases hix : 0 ≤ idx x sit
      · obtain ⟨p, hp⟩ : ∃ p : Nat, idx x sit = p := ⟨(idx x sit).toNat, by omega⟩
        obtain ⟨hpl, hpg⟩ := idx_get hp
        refine L_true (by simp; exact hix) (L_block ?_)
        obtain ⟨j, rfl⟩ : ∃ i, m = i + 1 := ⟨m - 1, by omega⟩
        unfold cntS at hcnt
        rw [if_neg (by omega), hp, Int.toNat_natCast, rem_split (by omega)] at hcnt
        have hlt2 : (k - 1) % (j + 1) < j + 1 := Nat.mod_lt _ (by omega)
        obtain ⟨s, hs⟩ : ∃ s : Nat, s = j + 1 := ⟨_, rfl⟩
        have e2 : ((k : Int) - 1).tmod (s : Int) = (((k - 1) % s : Nat) : Int) := by
          rw [show (k : Int) - 1 = ((k - 1 : Nat) : Int) by omega, Int.tmod_eq_emod_of_nonneg (by omega)]; rfl
        have e3 : (k : Int).tdiv (s : Int) = ((k / s : Nat) : Int) := by rw [Int.tdiv_eq_ediv_of_nonneg (by omega)]; rfl
        have e4 : (k : Int).tmod (s : Int) = ((k % s : Nat) : Int) := by rw [Int.tmod_eq_emod_of_nonneg (by omega)]; rfl
        have hdk := Nat.div_le_self k s
        have hik : (n - (j + 1)) * k ≤ 100 * 1000000000000 := Nat.mul_le_mul (by omega) (by omega)
        have hsk : (n - j) * k = (n - (j + 1)) * k + k := by rw [show n - j = (n - (j + 1)) + 1 by omega]; exact Nat.succ_mul _ _
        have hqk : k / s + (if p < k % s then 1 else 0) ≤ k := by
          have := times_le (k := k) (m := j) (p := p) a3
          rw [rem_split (by omega), ← hs] at this
          exact this
        rw [← hs] at hlt2 hcnt
        have hs0 : s ≠ 0 := by omega
        have hsl2 : sit.length = s := by omega
        obtain ⟨a, ha⟩ : ∃ a : Nat, a = (k - 1) % s := ⟨_, rfl⟩
        rw [← ha] at e2 hlt2 hcnt
        generalize hq : k / s = q at *
        generalize hrr : k % s = rr at *
        obtain ⟨r, off, ver, sz, full, rfl, hld⟩ := id hw
        rw [hsl2] at hw0 ⊢
        refine L_reg [1, 2, 9, 10] (fun K hK => ?_)
        simp [hs0, e3, wrap_i64 (a := (q : Int)) (by omega), wrap_i64 (a := (t : Int) + q) (by omega)]
        apply hK; clear hK K
        refine L_regQ mixed [1, 2, 9, 10, 45] (by kernel_rfl) (fun K hK => ?_)
        simp [okFn_low]
        refine exQ_mk (fun Q hQ => place_ac _ sit x _ Q (by omega) hw0 hQ) ?_
        rw [hp]
        simp [hs0, e4]
        apply hK; clear hK K
        by_cases hpr : p < rr
        · rw [if_pos hpr] at hcnt hqk
          refine L_true (by simp [hpr]) ?_
          refine L_reg [1, 2, 9, 10] (fun K hK => ?_)
          simp [wrap_i64 (a := (t : Int) + q + 1) (by omega)]
          apply hK; clear hK K
          refine L_reg [1, 2, 9, 10] (fun K hK => ?_)
          simp [okFn_low, wrap_i64 (a := (k : Int) - 1) (by omega), hs0, e2]
          refine after_ac _ sit a (by omega) (by omega) _ _ hw0 (fun w2 H3 o3 E3 => ?_)
          simp
          apply hK; clear hK K
          exact ⟨j, [.int .i64 (t + q + 1 : Nat), w2], by omega, by simp, j, t + q + 1, w2, rot sit a, rfl, by omega, by rw [rot_len (by omega)]; omega, by omega, by omega, by simp, o3.own.ls, hE.trans E3⟩
        · rw [if_neg hpr] at hcnt hqk
          refine L_false (by simp; omega) ?_
          refine L_reg [1, 2, 9, 10] (fun K hK => ?_)
          simp [okFn_low, wrap_i64 (a := (k : Int) - 1) (by omega), hs0, e2]
          refine after_ac _ sit a (by omega) (by omega) _ _ hw0 (fun w2 H3 o3 E3 => ?_)
          simp
          apply hK; clear hK K
          exact ⟨j, [.int .i64 (t + q : Nat), w2], by omega, by simp, j, t + q, w2, rot sit a, rfl, by omega, by rw [rot_len (by omega)]; omega, by omega, by omega, by simp, o3.own.ls, hE.trans E3⟩
      · refine L_false (by simp; omega) (L_exit ?_)
        have hno : idx x sit = -1 := by have := idx_ge x sit; omega
        rw [cntS_none hno, Nat.add_zero] at hcnt
        refine L_reg [6, 7] (fun K hK => ?_)
        simp
        apply hK; clear hK K
        have := h _ hE
        rw [← hcnt] at this
        exact L_ret ⟨.inr rfl, _, rfl, by simpa using this⟩
    · rw [if_neg (fun e => hx e.2), oneE_no hB hx] at h
      have hx2 : ¬ (0 ≤ x ∧ x ≤ (n : Int) - 1) := by omega
      refine L_reg [0, 1, 2, 8, 22] (fun K hK => ?_)
      simp [okFn_low, eB, w1]
      refine in_ac _ _ _ _ _ ?_
      simp [decide_eq_false hx2, pickV]
      apply hK; clear hK K
      refine L_true (by simp) ?_
      refine L_reg [0, 1, 2, 8] (fun K hK => ?_)
      simp
      apply hK; clear hK K
      refine L_reg [0, 1, 2, 8, 24] (fun K hK => ?_)
      simp
      apply hK; clear hK K
      refine L_true (by simp) ?_
      refine L_reg [6, 7] (fun K hK => ?_)
      simp
      apply hK; clear hK K
      exact L_ret ⟨.inr rfl, _, rfl, h _ (.refl _)⟩
  · have eB := benchE_no hB
    rw [if_neg (fun e => hB e.1), oneE_none hB] at h
    refine L_reg [0, 1, 2, 8, 22] (fun K hK => ?_)
    simp [eB, pickV]
    apply hK; clear hK K
    refine L_false (by simp) ?_
    refine L_reg [0, 1, 2, 8, 24] (fun K hK => ?_)
    simp
    apply hK; clear hK K
    refine L_true (by simp) ?_
    refine L_reg [6, 7] (fun K hK => ?_)
    simp
    apply hK; clear hK K
    exact L_ret ⟨.inr rfl, _, rfl, h _ (.refl _)⟩
theorem Counted_ac (n k x : Int) (H : AH) (Q : AV → AH → Prop) (h : ∀ H', Ext H H' → Q (.tuple [.int .i64 (if okO n k x then (cntN n.toNat k.toNat x : Int) else 0), .int .i64 (oneE n k x)]) H') : AC Try.prog 23 [.int .i64 n, .int .i64 k, .int .i64 x] H Q := by
  refine L_body 20 Try.func23 rfl rfl ?_
  refine L_reg [0, 1, 2] (fun K hK => ?_)
  simp
  apply hK; clear hK K
  refine L_reg [0, 1, 2, 8] (fun K hK => ?_)
  simp [okFn_low]
  refine checkOne_ac n k x _ _ ?_
  simp
  apply hK; clear hK K
  refine L_reg [0, 1, 2, 8, 14] (fun K hK => ?_)
  simp
  apply hK; clear hK K
  by_cases h0 : okO n k x
  · have e0 := oneE_zero h0
    refine L_false (by simp [e0]) ?_
    rw [if_pos h0, e0] at h
    obtain ⟨n, k, rfl, rfl, a1, a2, a3, a4⟩ := okB_nat h0.1
    simp only [Int.toNat_natCast] at h
    refine L_reg [6, 7] (fun K hK => ?_)
    simp [okFn_low]
    refine countedI_ac n k x (by omega) a3 (by omega) h0.2 _ _ (fun H1 E1 => ?_)
    simp
    apply hK; clear hK K
    exact L_ret ⟨.inr rfl, _, rfl, h H1 E1⟩
  · have e0 := oneE_nz h0
    rw [if_neg h0] at h
    refine L_true (by simp [e0]) ?_
    refine L_reg [6, 7] (fun K hK => ?_)
    simp
    apply hK; clear hK K
    exact L_ret ⟨.inr rfl, _, rfl, h _ (.refl _)⟩
end Go.Proofs.Ytmlhekfkniibmaa

/- Two lists are compared. -/
namespace Go.Proofs.Ytmlhekfkniibmaa
open Go Go.Proofs.Ytmlhekfkniibmaa.AX
theorem same_ac (u v : AV) (l m : List Int) (H : AH) (Q : AV → AH → Prop) (hl : l.length ≤ 1048576) (hu : Ls H u l) (hv : Ls H v m) (h : Q (.bool (decide (l = m))) H) : AC Try.prog 17 [u, v] H Q := by
  obtain ⟨r, off, ver, sz, full, rfl, hu⟩ := hu
  obtain ⟨r2, off2, ver2, sz2, full2, rfl, hv⟩ := hv
  refine L_body 26 Try.func17 rfl rfl ?_
  refine L_reg [0, 1] (fun K hK => ?_)
  simp
  apply hK; clear hK K
  refine L_reg [0, 1, 10] (fun K hK => ?_)
  simp
  apply hK; clear hK K
  by_cases hlen : l.length = m.length
  case neg =>
    refine L_true (by simp; omega) ?_
    refine L_reg [4] (fun K hK => ?_)
    simp
    apply hK; clear hK K
    have : l ≠ m := fun e => hlen (by rw [e])
    rw [decide_eq_false this] at h
    exact L_ret ⟨.inr rfl, _, rfl, h⟩
  refine L_false (by simp [hlen]) ?_
  refine L_reg [0, 1, 5] (fun K hK => ?_)
  simp
  apply hK; clear hK K
  refine L_block (L_loopV [5] (fun k vs H' => ∃ (i : Nat), k = l.length - i ∧ i ≤ l.length ∧ (l.drop i = m.drop i → l = m) ∧ vs = [.int .i64 i] ∧ H' = H) _ [.int .i64 (0 : Nat)] rfl ⟨0, rfl, by omega, by simp, rfl, rfl⟩ ?_)
  rintro k _ _ ⟨i, rfl, hi, hs, rfl, rfl⟩
  refine L_reg [0, 1, 5, 14] (fun K hK => ?_)
  simp
  apply hK; clear hK K
  refine L_dec (i < l.length) (by simp) (fun hlt => ?_) (fun hge => L_exit ?_)
  · obtain ⟨r', rfl, rfl, hld⟩ := hu i hlt
    obtain ⟨r3, rfl, rfl, hld2⟩ := hv i (by omega)
    rw [List.drop_eq_getElem_cons hlt, List.drop_eq_getElem_cons (by omega : i < m.length)] at hs
    refine L_block ?_
    refine L_regT mixed [0, 1, 5, 25] (by kernel_rfl) (fun K hK => ?_)
    simp [hlt, ← hlen, hld, hld2]
    apply hK; clear hK K
    by_cases he : l[i] = m[i]
    · refine L_false (by simp [he]) ?_
      rw [he] at hs
      refine L_reg [0, 1, 5] (fun K hK => ?_)
      simp [wrap_i64 (a := (i : Int) + 1) (by omega)]
      apply hK; clear hK K
      exact ⟨l.length - (i + 1), [.int .i64 (i + 1 : Nat)], by omega, by simp [hlen], i + 1, rfl, by omega, fun e => hs (by rw [e]), rfl, rfl⟩
    · refine L_true (by simp [he]) ?_
      refine L_reg [4] (fun K hK => ?_)
      simp
      apply hK; clear hK K
      have : l ≠ m := fun e => he (by subst e; rfl)
      rw [decide_eq_false this] at h
      exact L_ret ⟨.inr rfl, _, rfl, h⟩
  · refine L_reg [4] (fun K hK => ?_)
    simp
    apply hK; clear hK K
    have : l = m := hs (by rw [List.drop_eq_nil_of_le (by omega), List.drop_eq_nil_of_le (by omega)])
    rw [decide_eq_true this] at h
    exact L_ret ⟨.inr rfl, _, rfl, h⟩
end Go.Proofs.Ytmlhekfkniibmaa

/- How many orders are possible. -/
namespace Go.Proofs.Ytmlhekfkniibmaa
open Go Go.Proofs.Ytmlhekfkniibmaa.AX
theorem tmod_nat (a b : Nat) : ((a : Int)).tmod (b : Int) = ((a % b : Nat) : Int) := by rw [Int.tmod_eq_emod_of_nonneg (by omega)]; rfl
/-- The multiples of a, up to one that b divides. -/
theorem lcm_found {a b j : Nat} (ha : 0 < a) (hb : 0 < b) (hj : 0 < j) (hd : b ∣ a * j) (hmin : ∀ i, 0 < i → i < j → ¬ b ∣ a * i) : a * j = Nat.lcm a b := by
  have h1 : Nat.lcm a b ∣ a * j := Nat.lcm_dvd (Nat.dvd_mul_right a j) hd
  obtain ⟨i, hi⟩ := Nat.dvd_lcm_left a b
  have hi0 : 0 < i := by
    rcases Nat.eq_zero_or_pos i with e | e
    · rw [e, Nat.mul_zero] at hi
      have := Nat.lcm_pos ha hb; omega
    · exact e
  have h2 : b ∣ a * i := by rw [← hi]; exact Nat.dvd_lcm_right a b
  have h3 : j ≤ i := by
    rcases Nat.lt_or_ge i j with e | e
    · exact absurd h2 (hmin i hi0 e)
    · exact e
  have h4 : a * j ≤ Nat.lcm a b := by rw [hi]; exact Nat.mul_le_mul_left a h3
  exact Nat.le_antisymm h4 (Nat.le_of_dvd (Nat.mul_pos ha hj) h1)
theorem common_ac (a b : Nat) (ha : 0 < a) (ha2 : a ≤ 1000000000000) (hb : 0 < b) (hb2 : b ≤ 1000) (H : AH) (Q : AV → AH → Prop) (h : Q (.int .i64 (Nat.lcm a b : Nat)) H) : AC Try.prog 75 [.int .i64 a, .int .i64 b] H Q := by
  refine L_body 15 Try.func75 rfl rfl ?_
  refine L_reg [0, 1] (fun K hK => ?_)
  simp
  apply hK; clear hK K
  refine L_reg [0, 1, 5] (fun K hK => ?_)
  simp
  apply hK; clear hK K
  have hab : a * b ≤ 1000000000000 * 1000 := Nat.mul_le_mul ha2 hb2
  have hb0 : b ≠ 0 := by omega
  refine L_block (L_loopV [5] (fun n vs H' => ∃ (j c : Nat), n = b - j ∧ 0 < j ∧ j ≤ b ∧ c = a * j ∧ (∀ i, 0 < i → i < j → ¬ b ∣ a * i) ∧ vs = [.int .i64 c] ∧ H = H') _ [.int .i64 a] rfl ⟨1, a, rfl, by omega, by omega, by simp, fun i h1 h2 => by omega, rfl, rfl⟩ ?_)
  rintro n _ _ ⟨j, c, rfl, hj0, hj, hc, hmin, rfl, rfl⟩
  have em := tmod_nat c b
  generalize hm : c % b = m at em
  refine L_reg [0, 1, 5, 10] (fun K hK => ?_)
  simp [hb0, em]
  apply hK; clear hK K
  by_cases h0 : m = 0
  · refine L_false (by simp [h0]) (L_exit ?_)
    have hd : b ∣ a * j := by rw [← hc]; exact Nat.dvd_of_mod_eq_zero (by omega)
    rw [← lcm_found ha hb hj0 hd hmin, ← hc] at h
    refine L_reg [4] (fun K hK => ?_)
    simp
    apply hK; clear hK K
    exact L_ret ⟨.inr rfl, _, rfl, h⟩
  · refine L_true (by simp [h0]) (L_block ?_)
    have hjb : j < b := by
      rcases Nat.lt_or_ge j b with e | e
      · exact e
      · have : j = b := by omega
        subst this
        rw [hc, Nat.mul_mod_left] at hm; omega
    have hcb : c ≤ 1000000000000 * 1000 := by rw [hc]; exact Nat.le_trans (Nat.mul_le_mul_left a (by omega)) hab
    have hs : c + a = a * (j + 1) := by rw [hc, Nat.mul_succ]
    refine L_reg [0, 1, 5] (fun K hK => ?_)
    simp [wrap_i64 (a := (c : Int) + a) (by omega)]
    apply hK; clear hK K
    refine ⟨b - (j + 1), [.int .i64 (c + a : Nat)], by omega, by simp, j + 1, c + a, rfl, by omega, by omega, hs, fun i h1 h2 => ?_, rfl, rfl⟩
    by_cases e : i = j
    · subst e
      intro hd
      rw [hc, Nat.mod_eq_zero_of_dvd hd] at hm; omega
    · exact hmin i h1 (by omega)
def lcmS : Nat → Nat
  | 0 => 1
  | n + 1 => Nat.lcm (lcmS n) (n + 1)
theorem lcmS_pos : ∀ n, 0 < lcmS n
  | 0 => by decide
  | n + 1 => Nat.lcm_pos (lcmS_pos n) (by omega)
theorem lcmS_mono : ∀ {n m : Nat}, n ≤ m → lcmS n ∣ lcmS m
  | n, 0, h => by rw [show n = 0 by omega]; exact Nat.dvd_refl _
  | n, m + 1, h => by
    rcases Nat.lt_or_ge n (m + 1) with e | e
    · exact Nat.dvd_trans (lcmS_mono (by omega)) (Nat.dvd_lcm_left _ _)
    · rw [show n = m + 1 by omega]; exact Nat.dvd_refl _
theorem lcmS_20 : lcmS 20 = 232792560 := by decide +kernel
theorem lcmS_le {n : Nat} (h : n ≤ 20) : lcmS n ≤ 232792560 := by rw [← lcmS_20]; exact Nat.le_of_dvd (lcmS_pos _) (lcmS_mono h)
theorem orders_ac (n : Nat) (hn : n ≤ 20) (H : AH) (Q : AV → AH → Prop) (h : Q (.int .i64 (lcmS n : Nat)) H) : AC Try.prog 57 [.int .i64 n] H Q := by
  refine L_body 15 Try.func57 rfl rfl ?_
  refine L_reg [0] (fun K hK => ?_)
  simp
  apply hK; clear hK K
  refine L_reg [0, 3] (fun K hK => ?_)
  simp
  apply hK; clear hK K
  refine L_reg [3, 5, 6] (fun K hK => ?_)
  simp
  apply hK; clear hK K
  refine L_block (L_loopV [3, 6] (fun m vs H' => ∃ (i c : Nat), m = n - i ∧ i ≤ n ∧ c = lcmS i ∧ vs = [.int .i64 c, .int .i64 i] ∧ H = H') _ [.int .i64 1, .int .i64 0] rfl ⟨0, 1, rfl, by omega, rfl, rfl, rfl⟩ ?_)
  rintro m _ _ ⟨i, c, rfl, hi, hc, rfl, rfl⟩
  refine L_reg [3, 5, 6, 7] (fun K hK => ?_)
  simp
  apply hK; clear hK K
  refine L_dec (i < n) (by simp) (fun hlt => ?_) (fun hge => L_exit ?_)
  · refine L_block ?_
    have h0 := lcmS_pos i
    have h1 := lcmS_le (show i ≤ 20 by omega)
    have h2 := common_ac c (i + 1) (by omega) (by omega) (by omega) (by omega) H
    push_cast at h2
    have e : Nat.lcm c (i + 1) = lcmS (i + 1) := by rw [hc]; rfl
    rw [e] at h2
    generalize hd : lcmS (i + 1) = d at *
    refine L_reg [3, 4, 5, 6] (fun K hK => ?_)
    simp
    apply hK; clear hK K
    refine L_reg [3, 5, 6] (fun K hK => ?_)
    simp [okFn_low, wrap_i64 (a := (i : Int) + 1) (by omega)]
    refine h2 _ ?_
    simp
    apply hK; clear hK K
    refine L_reg [3, 5, 6] (fun K hK => ?_)
    simp [wrap_i64 (a := (i : Int) + 1) (by omega)]
    apply hK; clear hK K
    exact ⟨n - (i + 1), [.int .i64 d, .int .i64 (i + 1 : Nat)], by omega, by simp, i + 1, d, rfl, by omega, hd.symm, rfl, rfl⟩
  · have : i = n := by omega
    subst this
    rw [← hc] at h
    refine L_reg [2] (fun K hK => ?_)
    simp
    apply hK; clear hK K
    exact L_ret ⟨.inr rfl, _, rfl, h⟩
theorem ordersR_ac (n : Nat) (hn : n ≤ 20) (H : AH) (Q : AV → AH → Prop) (h : Q (.int .i64 (lcmS n : Nat)) H) : AC Try.prog 58 [.int .i64 n] H Q := by
  refine L_body 20 Try.func58 rfl rfl ?_
  refine L_reg [0] (fun K hK => ?_)
  simp
  apply hK; clear hK K
  refine L_reg [0, 3] (fun K hK => ?_)
  simp
  apply hK; clear hK K
  refine L_reg [0, 3, 4] (fun K hK => ?_)
  simp
  apply hK; clear hK K
  refine L_block (L_loopV [3, 4] (fun m vs H' => ∃ (i c : Nat), m = n - i ∧ (i ≤ n ∨ n = 0 ∧ i = 1) ∧ 1 ≤ i ∧ c = lcmS i ∧ vs = [.int .i64 c, .int .i64 (i + 1 : Nat)] ∧ H = H') _ [.int .i64 1, .int .i64 2] rfl ⟨1, 1, rfl, by omega, by omega, rfl, rfl, rfl⟩ ?_)
  rintro m _ _ ⟨i, c, rfl, hi, hi1, hc, rfl, rfl⟩
  refine L_reg [0, 3, 4, 8] (fun K hK => ?_)
  simp
  apply hK; clear hK K
  refine L_dec (i < n) (by simp; omega) (fun hlt => ?_) (fun hge => L_exit ?_)
  · refine L_block ?_
    have h0 := lcmS_pos i
    have h1 := lcmS_le (show i ≤ 20 by omega)
    obtain ⟨b, hb⟩ : ∃ b : Nat, b = i + 1 := ⟨_, rfl⟩
    have e : Nat.lcm c b = lcmS b := by rw [hc, hb]; rfl
    rw [show (i : Int) + 1 = (b : Int) by omega]
    refine L_reg [0, 3, 4, 5] (fun K hK => ?_)
    simp
    apply hK; clear hK K
    have hab : c * b ≤ 1000000000000 * 1000 := Nat.mul_le_mul (by omega) (by omega)
    have hb0 : b ≠ 0 := by omega
    refine L_block (L_loopV [3] (fun n vs H' => ∃ (j d : Nat), n = b - j ∧ 0 < j ∧ j ≤ b ∧ d = c * j ∧ (∀ i, 0 < i → i < j → ¬ b ∣ c * i) ∧ vs = [.int .i64 d] ∧ H = H') _ [.int .i64 c] rfl ⟨1, c, rfl, by omega, by omega, by simp, fun i h1 h2 => by omega, rfl, rfl⟩ ?_)
    rintro m _ _ ⟨j, d, rfl, hj0, hj, hd, hmin, rfl, rfl⟩
    have em := tmod_nat d b
    generalize hm : d % b = m at em
    refine L_reg [0, 3, 4, 5, 15] (fun K hK => ?_)
    simp [hb0, em]
    apply hK; clear hK K
    by_cases hm0 : m = 0
    · refine L_false (by simp [hm0]) (L_exit ?_)
      have hdv : b ∣ c * j := by rw [← hd]; exact Nat.dvd_of_mod_eq_zero (by omega)
      have hl := lcm_found (by omega) (by omega) hj0 hdv hmin
      refine L_reg [0, 3, 4] (fun K hK => ?_)
      simp [wrap_i64 (a := (b : Int) + 1) (by omega)]
      apply hK; clear hK K
      exact ⟨n - b, [.int .i64 d, .int .i64 (b + 1 : Nat)], by omega, by simp, b, d, rfl, by omega, by omega, by rw [hd, hl, e], rfl, rfl⟩
    · refine L_true (by simp [hm0]) (L_block ?_)
      have hjb : j < b := by
        rcases Nat.lt_or_ge j b with e | e
        · exact e
        · have : j = b := by omega
          subst this
          rw [hd, Nat.mul_mod_left] at hm; omega
      have hcb : d ≤ 1000000000000 * 1000 := by rw [hd]; exact Nat.le_trans (Nat.mul_le_mul_left c (by omega)) hab
      have hs : d + c = c * (j + 1) := by rw [hd, Nat.mul_succ]
      refine L_reg [0, 3, 4, 5] (fun K hK => ?_)
      simp [wrap_i64 (a := (d : Int) + c) (by omega)]
      apply hK; clear hK K
      refine ⟨b - (j + 1), [.int .i64 (d + c : Nat)], by omega, by simp, j + 1, d + c, rfl, by omega, by omega, hs, fun i h1 h2 => ?_, rfl, rfl⟩
      by_cases e : i = j
      · subst e
        intro hdd
        rw [hd, Nat.mod_eq_zero_of_dvd hdd] at hm; omega
      · exact hmin i h1 (by omega)
  · have e : lcmS i = lcmS n := by
      rcases hi with h1 | ⟨h1, h2⟩
      · rw [show i = n by omega]
      · rw [h1, h2]; rfl
    rw [← e, ← hc] at h
    refine L_reg [2] (fun K hK => ?_)
    simp
    apply hK; clear hK K
    exact L_ret ⟨.inr rfl, _, rfl, h⟩
def ordersP (n : Int) : Int := if 1 ≤ n ∧ n ≤ 20 then (lcmS n.toNat : Int) else 0
def rangeE (n : Int) : Int := if 1 ≤ n ∧ n ≤ 20 then 0 else 1
theorem Orders_ac (n : Int) (H : AH) (Q : AV → AH → Prop) (h : Q (.tuple [.int .i64 (ordersP n), .int .i64 (rangeE n)]) H) : AC Try.prog 25 [.int .i64 n] H Q := by
  refine L_body 9 Try.func25 rfl rfl ?_
  refine L_reg [0] (fun K hK => ?_)
  simp
  apply hK; clear hK K
  unfold ordersP rangeE at h
  by_cases h1 : 1 ≤ n ∧ n ≤ 20
  · rw [if_pos h1, if_pos h1] at h
    refine L_reg [0, 6] (fun K hK => ?_)
    simp [okFn_low]
    refine isBench_ac n _ _ ?_
    simp [decide_eq_true h1]
    apply hK; clear hK K
    refine L_false (by simp) ?_
    obtain ⟨n, rfl⟩ : ∃ y : Nat, n = y := ⟨n.toNat, by omega⟩
    simp only [Int.toNat_natCast] at h
    refine L_reg [2, 3] (fun K hK => ?_)
    simp [okFn_low]
    refine orders_ac n (by omega) _ _ ?_
    simp
    apply hK; clear hK K
    exact L_ret ⟨.inr rfl, _, rfl, h⟩
  · rw [if_neg h1, if_neg h1] at h
    refine L_reg [0, 6] (fun K hK => ?_)
    simp [okFn_low]
    refine isBench_ac n _ _ ?_
    simp [decide_eq_false h1]
    apply hK; clear hK K
    refine L_true (by simp) ?_
    refine L_reg [2, 3] (fun K hK => ?_)
    simp
    apply hK; clear hK K
    exact L_ret ⟨.inr rfl, _, rfl, h⟩
theorem OrdersR_ac (n : Int) (H : AH) (Q : AV → AH → Prop) (h : Q (.tuple [.int .i64 (ordersP n), .int .i64 (rangeE n)]) H) : AC Try.prog 26 [.int .i64 n] H Q := by
  refine L_body 9 Try.func26 rfl rfl ?_
  refine L_reg [0] (fun K hK => ?_)
  simp
  apply hK; clear hK K
  unfold ordersP rangeE at h
  by_cases h1 : 1 ≤ n ∧ n ≤ 20
  · rw [if_pos h1, if_pos h1] at h
    refine L_reg [0, 6] (fun K hK => ?_)
    simp [okFn_low]
    refine in_ac n 1 20 _ _ ?_
    simp [decide_eq_true h1]
    apply hK; clear hK K
    refine L_false (by simp) ?_
    obtain ⟨n, rfl⟩ : ∃ y : Nat, n = y := ⟨n.toNat, by omega⟩
    simp only [Int.toNat_natCast] at h
    refine L_reg [2, 3] (fun K hK => ?_)
    simp [okFn_low]
    refine ordersR_ac n (by omega) _ _ ?_
    simp
    apply hK; clear hK K
    exact L_ret ⟨.inr rfl, _, rfl, h⟩
  · rw [if_neg h1, if_neg h1] at h
    refine L_reg [0, 6] (fun K hK => ?_)
    simp [okFn_low]
    refine in_ac n 1 20 _ _ ?_
    simp [decide_eq_false h1]
    apply hK; clear hK K
    refine L_true (by simp) ?_
    refine L_reg [2, 3] (fun K hK => ?_)
    simp
    apply hK; clear hK K
    exact L_ret ⟨.inr rfl, _, rfl, h⟩
set_option maxHeartbeats 1000000 in
theorem benchCounted_ac (n k x : Int) (H : AH) : AC Try.prog 4 [.int .i64 n, .int .i64 k, .int .i64 x] H fun u _ => u = .bool true := by
  refine L_body 60 Try.func4 rfl rfl ?_
  refine L_reg [0, 1, 2] (fun K hK => ?_)
  simp
  apply hK; clear hK K
  refine L_reg [0, 1, 2, 7, 8] (fun K hK => ?_)
  simp [okFn_low]
  refine Counted_ac n k x _ _ (fun H1 E1 => ?_)
  simp
  apply hK; clear hK K
  refine L_reg [0, 7, 8, 9, 10] (fun K hK => ?_)
  simp [okFn_low]
  refine CountedR_ac n k x _ _ (fun H2 E2 => ?_)
  simp
  apply hK; clear hK K
  refine L_reg [0, 7, 8, 9, 10, 11, 12] (fun K hK => ?_)
  simp [okFn_low]
  refine Orders_ac n _ _ ?_
  simp
  apply hK; clear hK K
  refine L_reg [7, 8, 9, 10, 11, 12, 13, 14] (fun K hK => ?_)
  simp [okFn_low]
  refine OrdersR_ac n _ _ ?_
  simp
  apply hK; clear hK K
  refine L_reg [6] (fun K hK => ?_)
  simp [okFn_low, pickV]
  refine works_ac _ _ ?_
  simp [pickV]
  apply hK; clear hK K
  exact L_ret ⟨.inr rfl, _, rfl, rfl⟩
end Go.Proofs.Ytmlhekfkniibmaa

/- Orders are checked. -/
namespace Go.Proofs.Ytmlhekfkniibmaa
open Go Go.Proofs.Ytmlhekfkniibmaa.AX

@[simp] theorem lenS22 (b : Bool) (r off len ver : Nat) : aLen Try.prog 22 (SV b r off len ver) = some (.int .i64 len) := by
  cases b
  · exact len22 ..
  · unfold aLen SV; rw [und22]; rfl
@[simp] theorem ixaS22 (b : Bool) (r off len ver : Nat) (k : IntKind) (i : Int) : aIndexAddr Try.prog 22 (SV b r off len ver) (.int k i) = if 0 ≤ i ∧ i < len then some (.ptr r (off + i.toNat) ver) else none := by
  cases b
  · have := ixa22 r off len ver false k i
    rw [Nat.mul_one] at this
    exact this
  · obtain ⟨ie, h1, h2⟩ := inf3
    unfold aIndexAddr SV
    rw [und22]
    simp [h1, h2]
theorem sliceS22 {full : Bool} {r off len ver hi : Nat} (h2 : hi ≤ len) : aSlice Try.prog 22 (.slice (some r) off len ver 1 full) none (some (.int .i64 (hi : Int))) (some (.int .i64 (hi : Int))) = some (SV true r off hi ver) := by
  obtain ⟨ie, g1, g2⟩ := inf3
  simp [aSlice, SV, g1, g2, aBounds, aBound, h2, clipOf]
theorem IndexC_ac (b : Bool) (r ver off n : Nat) (x : Int) (l : List Int) (H : AH) (Q : AV → AH → Prop) (hr : ∀ i, i < n → ld H r (off + i) ver = some (.int .i64 (g l i))) (hn : l.length = n) (hlen : n ≤ 1000000) (h : Q (.int .i64 (idx x l)) H) : AC Try.prog 50 [SV b r off n ver, .int .i64 x] H Q := by
  refine L_body 19 Try.func50 rfl rfl ?_
  refine L_reg [0, 1] (fun K hK => ?_)
  simp
  apply hK; clear hK K
  refine L_reg [0, 1, 7, 8] (fun K hK => ?_)
  simp
  apply hK; clear hK K
  refine L_block (L_loopV [8] (fun m vs H' => ∃ i : Nat, m = n - i ∧ i ≤ n ∧ Go.Proofs.Ytmlhekfkniibmaa.off i (idx x (l.drop i)) = idx x l ∧ vs = [.int .i64 i] ∧ H = H') _ [.int .i64 0] rfl ⟨0, rfl, by omega, by unfold Go.Proofs.Ytmlhekfkniibmaa.off; rw [List.drop_zero]; split <;> omega, rfl, rfl⟩ ?_)
  rintro m _ _ ⟨i, rfl, hi, hno, rfl, rfl⟩
  refine L_reg [0, 1, 7, 8, 9] (fun K hK => ?_)
  simp
  apply hK; clear hK K
  refine L_dec (i < n) (by simp) (fun hlt => ?_) (fun hge => L_exit ?_)
  · refine L_block ?_
    have hrd := hr i hlt
    have hil : i < l.length := by omega
    refine L_reg [0, 1, 5, 7, 8] (fun K hK => ?_)
    simp
    apply hK; clear hK K
    refine L_reg [0, 1, 5, 7, 8, 16] (fun K hK => ?_)
    simp [hrd, hlt]
    apply hK; clear hK K
    by_cases e : x = g l i
    · refine L_true (by simp [← e]) ?_
      rw [idx_here hil e.symm] at hno
      have e3 : Go.Proofs.Ytmlhekfkniibmaa.off i 0 = i := by unfold Go.Proofs.Ytmlhekfkniibmaa.off; rw [if_neg (by omega)]; omega
      rw [e3] at hno
      rw [← hno] at h
      refine L_reg [4] (fun K hK => ?_)
      simp
      apply hK; clear hK K
      exact L_ret ⟨.inr rfl, _, rfl, h⟩
    · refine L_false (by simp [e]) ?_
      rw [off_step hil (fun h => e h.symm)] at hno
      refine L_reg [0, 1, 7, 8] (fun K hK => ?_)
      simp [wrap_i64 (a := (i : Int) + 1) (by omega)]
      apply hK; clear hK K
      exact ⟨n - (i + 1), [.int .i64 (i + 1 : Nat)], by omega, by simp, i + 1, rfl, by omega, hno, rfl, rfl⟩
  · have hi' : i = l.length := by omega
    subst hi'
    rw [List.drop_length] at hno
    rw [← hno] at h
    refine L_reg [4] (fun K hK => ?_)
    simp
    apply hK; clear hK K
    exact L_ret ⟨.inr rfl, _, rfl, h⟩
theorem idx_iff {x : Int} {l : List Int} : 0 ≤ idx x l ↔ x ∈ l := by
  constructor
  · intro h
    obtain ⟨p, hp⟩ : ∃ p : Nat, idx x l = p := ⟨(idx x l).toNat, by omega⟩
    obtain ⟨h1, h2⟩ := idx_get hp
    rw [← h2, g_lt h1]; simp
  · exact idx_mem
theorem ContainsC_ac (b : Bool) (r ver off n : Nat) (x : Int) (l : List Int) (H : AH) (Q : AV → AH → Prop) (hr : ∀ i, i < n → ld H r (off + i) ver = some (.int .i64 (g l i))) (hn : l.length = n) (hlen : n ≤ 1000000) (h : Q (.bool (decide (x ∈ l))) H) : AC Try.prog 40 [SV b r off n ver, .int .i64 x] H Q := by
  refine L_body 9 Try.func40 rfl rfl ?_
  refine L_reg [0, 1] (fun K hK => ?_)
  simp
  apply hK; clear hK K
  refine L_reg [4] (fun K hK => ?_)
  simp [okFn_low]
  refine IndexC_ac b r ver off n x l _ _ hr hn hlen ?_
  simp
  apply hK; clear hK K
  have e : decide (0 ≤ idx x l) = decide (x ∈ l) := decide_eq_decide.2 idx_iff
  exact L_ret ⟨.inr rfl, _, rfl, by first | (simpa [e] using h) | (simp only [← e] at h; simpa using h)⟩
theorem Contains_ac (v : AV) (x : Int) (l : List Int) (H : AH) (Q : AV → AH → Prop) (hv : Ls H v l) (hlen : l.length ≤ 1000000) (h : Q (.bool (decide (x ∈ l))) H) : AC Try.prog 40 [v, .int .i64 x] H Q := by
  obtain ⟨r, off, ver, sz, full, rfl, -⟩ := id hv
  refine L_body 9 Try.func40 rfl rfl ?_
  refine L_reg [0, 1] (fun K hK => ?_)
  simp
  apply hK; clear hK K
  refine L_reg [4] (fun K hK => ?_)
  simp [okFn_low]
  refine Index_ac _ l x _ _ hlen hv ?_
  simp
  apply hK; clear hK K
  have e : decide (0 ≤ idx x l) = decide (x ∈ l) := decide_eq_decide.2 idx_iff
  exact L_ret ⟨.inr rfl, _, rfl, by first | (simpa [e] using h) | (simp only [← e] at h; simpa using h)⟩
/-- What a check of an order says, from a place on. -/
def chkS (n : Nat) (pre : List Int) : List Int → Int
  | [] => 0
  | x :: l => if 0 ≤ x ∧ x < n then (if x ∈ pre then 6 else chkS n (pre ++ [x]) l) else 2
def checkP (l : List Int) : Int := if 1 ≤ l.length ∧ l.length ≤ 20 then chkS l.length [] l else 1
theorem chkS_step {n i : Nat} {l : List Int} (hi : i < l.length) : chkS n (l.take i) (l.drop i) = if 0 ≤ g l i ∧ g l i < n then (if g l i ∈ l.take i then 6 else chkS n (l.take (i + 1)) (l.drop (i + 1))) else 2 := by
  rw [List.drop_eq_getElem_cons hi, ← g_lt hi]
  simp only [chkS]
  have : l.take i ++ [g l i] = l.take (i + 1) := by rw [g_lt hi]; simp
  rw [this]
set_option maxHeartbeats 1000000 in
theorem Check_ac (v : AV) (l : List Int) (H : AH) (Q : AV → AH → Prop) (hv : Ls H v l) (hlen : l.length ≤ 1000000) (h : Q (.int .i64 (checkP l)) H) : AC Try.prog 31 [v] H Q := by
  obtain ⟨r, off, ver, sz, full, rfl, hld⟩ := id hv
  refine L_body 28 Try.func31 rfl rfl ?_
  refine L_reg [0] (fun K hK => ?_)
  simp
  apply hK; clear hK K
  unfold checkP at h
  by_cases h1 : 1 ≤ l.length ∧ l.length ≤ 20
  · rw [if_pos h1] at h
    have h1' : (1 : Int) ≤ l.length ∧ (l.length : Int) ≤ 20 := by omega
    refine L_reg [0, 8] (fun K hK => ?_)
    simp [okFn_low]
    refine isBench_ac _ _ _ ?_
    simp [decide_eq_true h1']
    apply hK; clear hK K
    refine L_false (by simp) ?_
    obtain ⟨r', rfl, rfl, -⟩ := hld 0 (by omega)
    have hrd : ∀ i, i < l.length → ld H r' (off + i) ver = some (.int .i64 (g l i)) := fun i hi => by
      obtain ⟨r2, e1, -, e3⟩ := hld i hi
      obtain rfl := Option.some.inj e1
      rw [g_lt hi]; exact e3
    clear hld hv
    generalize hn : l.length = n at *
    refine L_reg [0, 9, 10, 11] (fun K hK => ?_)
    simp
    apply hK; clear hK K
    refine L_block (L_loopV [11] (fun m vs H' => ∃ i : Nat, m = n - i ∧ i ≤ n ∧ chkS n (l.take i) (l.drop i) = chkS n [] l ∧ vs = [.int .i64 i] ∧ H = H') _ [.int .i64 0] rfl ⟨0, rfl, by omega, rfl, rfl, rfl⟩ ?_)
    rintro m _ _ ⟨i, rfl, hi, hc, rfl, rfl⟩
    refine L_reg [0, 9, 10, 11, 12] (fun K hK => ?_)
    simp
    apply hK; clear hK K
    refine L_dec (i < n) (by simp) (fun hlt => ?_) (fun hge => L_exit ?_)
    · refine L_block ?_
      have hx := hrd i hlt
      rw [chkS_step (by omega)] at hc
      generalize hy : g l i = y at *
      refine L_reg [0, 3, 4, 9, 10, 11] (fun K hK => ?_)
      simp [hx, hlt]
      apply hK; clear hK K
      by_cases h2 : 0 ≤ y ∧ y < (n : Int)
      · rw [if_pos h2] at hc
        refine L_reg [0, 3, 4, 9, 10, 11, 20] (fun K hK => ?_)
        simp [okFn_low]
        refine isRoller_ac _ _ _ _ ?_
        simp [h2]
        apply hK; clear hK K
        refine L_false (by simp) ?_
        refine L_reg [0, 9, 10, 11, 26] (fun K hK => ?_)
        simp [okFn_low, sliceS22 (Nat.le_of_lt hlt)]
        refine ContainsC_ac true r' ver off i y (l.take i) _ _ (fun j hj => by rw [hrd j (by omega), g_take hj]) (by simp; omega) (by omega) ?_
        simp
        apply hK; clear hK K
        by_cases h3 : y ∈ l.take i
        · rw [if_pos h3] at hc
          refine L_true (by simp [h3]) ?_
          rw [← hc] at h
          refine L_reg [2] (fun K hK => ?_)
          simp
          apply hK; clear hK K
          exact L_ret ⟨.inr rfl, _, rfl, h⟩
        · rw [if_neg h3] at hc
          refine L_false (by simp [h3]) ?_
          refine L_reg [0, 9, 10, 11] (fun K hK => ?_)
          simp [wrap_i64 (a := (i : Int) + 1) (by omega)]
          apply hK; clear hK K
          exact ⟨n - (i + 1), [.int .i64 (i + 1 : Nat)], by omega, by simp, i + 1, rfl, by omega, hc, rfl, rfl⟩
      · rw [if_neg h2] at hc
        refine L_reg [0, 3, 4, 9, 10, 11, 20] (fun K hK => ?_)
        simp [okFn_low]
        refine isRoller_ac _ _ _ _ ?_
        simp [decide_eq_false h2]
        apply hK; clear hK K
        refine L_true (by simp) ?_
        rw [← hc] at h
        refine L_reg [2] (fun K hK => ?_)
        simp
        apply hK; clear hK K
        exact L_ret ⟨.inr rfl, _, rfl, h⟩
    · have hi' : i = n := by omega
      subst hi'
      rw [List.drop_eq_nil_of_le (by omega)] at hc
      rw [← hc] at h
      refine L_reg [2] (fun K hK => ?_)
      simp
      apply hK; clear hK K
      exact L_ret ⟨.inr rfl, _, rfl, h⟩
  · rw [if_neg h1] at h
    have h1' : ¬ ((1 : Int) ≤ l.length ∧ (l.length : Int) ≤ 20) := by omega
    refine L_reg [0, 8] (fun K hK => ?_)
    simp [okFn_low]
    refine isBench_ac _ _ _ ?_
    simp [decide_eq_false h1']
    apply hK; clear hK K
    refine L_true (by simp) ?_
    refine L_reg [2] (fun K hK => ?_)
    simp
    apply hK; clear hK K
    exact L_ret ⟨.inr rfl, _, rfl, h⟩
set_option maxHeartbeats 1000000 in
theorem CheckR_ac (v : AV) (l : List Int) (H : AH) (Q : AV → AH → Prop) (hv : Ls H v l) (hlen : l.length ≤ 1000000) (h : Q (.int .i64 (checkP l)) H) : AC Try.prog 32 [v] H Q := by
  obtain ⟨r, off, ver, sz, full, rfl, hld⟩ := id hv
  obtain ⟨r0, off0, ver0, sz0, full0, e0, hsz, hsub⟩ := hv.sub
  obtain ⟨rfl, rfl, -, rfl, rfl, rfl⟩ := AV.slice.inj e0
  refine L_body 32 Try.func32 rfl rfl ?_
  refine L_reg [0] (fun K hK => ?_)
  simp
  apply hK; clear hK K
  unfold checkP at h
  by_cases h1 : 1 ≤ l.length ∧ l.length ≤ 20
  · rw [if_pos h1] at h
    have h1' : (1 : Int) ≤ l.length ∧ (l.length : Int) ≤ 20 := by omega
    refine L_reg [0, 7] (fun K hK => ?_)
    simp [okFn_low]
    refine in_ac _ _ _ _ _ ?_
    simp [decide_eq_true h1']
    apply hK; clear hK K
    refine L_false (by simp) ?_
    obtain ⟨r', rfl, rfl, -⟩ := hld 0 (by omega)
    have hrd : ∀ i, i < l.length → ld H r' (off + i) ver = some (.int .i64 (g l i)) := fun i hi => by
      obtain ⟨r2, e1, -, e3⟩ := hld i hi
      obtain rfl := Option.some.inj e1
      rw [g_lt hi]; exact e3
    have hsl := fun i (hi : i ≤ l.length) => slice_hi (k := .i64) slz22 (some r') off l.length ver full hi
    have hsb := fun i (hi : i ≤ l.length) (full' : Bool) => hsub 0 i full' (by omega) hi
    clear hld hv hsub hsz
    generalize hn : l.length = n at *
    refine L_reg [0, 3] (fun K hK => ?_)
    simp
    apply hK; clear hK K
    refine L_block (L_loopV [3] (fun m vs H' => ∃ i : Nat, m = n - i ∧ i ≤ n ∧ chkS n (l.take i) (l.drop i) = chkS n [] l ∧ vs = [.int .i64 i] ∧ H = H') _ [.int .i64 0] rfl ⟨0, rfl, by omega, rfl, rfl, rfl⟩ ?_)
    rintro m _ _ ⟨i, rfl, hi, hc, rfl, rfl⟩
    refine L_reg [0, 3, 11] (fun K hK => ?_)
    simp
    apply hK; clear hK K
    refine L_dec (i < n) (by simp) (fun hlt => ?_) (fun hge => L_exit ?_)
    · refine L_block ?_
      have hx := hrd i hlt
      rw [chkS_step (by omega)] at hc
      generalize hy : g l i = y at *
      have w1 : IntKind.i64.wrap ((n : Int) - 1) = (n : Int) - 1 := wrap_i64 (by omega)
      by_cases h2 : 0 ≤ y ∧ y < (n : Int)
      · rw [if_pos h2] at hc
        have h2' : 0 ≤ y ∧ y ≤ (n : Int) - 1 := by omega
        refine L_reg [0, 3, 22] (fun K hK => ?_)
        simp [okFn_low, hx, hlt, w1]
        refine in_ac _ _ _ _ _ ?_
        simp [decide_eq_true h2']
        apply hK; clear hK K
        refine L_false (by simp) ?_
        have s1 := hsl i (by omega)
        rw [Nat.add_zero] at s1
        have s2 := hsb i (by omega) (full && i == n)
        rw [Nat.add_zero, List.drop_zero, Nat.sub_zero] at s2
        refine L_regQ mixed [0, 3, 31] (by kernel_rfl) (fun K hK => ?_)
        simp [okFn_low, s1, hx, hlt]
        refine exQ_mk (fun Q hQ => place_ac _ (l.take i) y _ Q (by simp; omega) s2 hQ) ?_
        simp
        apply hK; clear hK K
        by_cases h3 : y ∈ l.take i
        · rw [if_pos h3] at hc
          have := idx_mem h3
          refine L_true (by simp; exact this) ?_
          rw [← hc] at h
          refine L_reg [2] (fun K hK => ?_)
          simp
          apply hK; clear hK K
          exact L_ret ⟨.inr rfl, _, rfl, h⟩
        · rw [if_neg h3] at hc
          have := idx_none h3
          refine L_false (by simp [this]) ?_
          refine L_reg [0, 3] (fun K hK => ?_)
          simp [wrap_i64 (a := (i : Int) + 1) (by omega)]
          apply hK; clear hK K
          exact ⟨n - (i + 1), [.int .i64 (i + 1 : Nat)], by omega, by simp, i + 1, rfl, by omega, hc, rfl, rfl⟩
      · rw [if_neg h2] at hc
        have h2' : ¬ (0 ≤ y ∧ y ≤ (n : Int) - 1) := by omega
        refine L_reg [0, 3, 22] (fun K hK => ?_)
        simp [okFn_low, hx, hlt, w1]
        refine in_ac _ _ _ _ _ ?_
        simp [decide_eq_false h2']
        apply hK; clear hK K
        refine L_true (by simp) ?_
        rw [← hc] at h
        refine L_reg [2] (fun K hK => ?_)
        simp
        apply hK; clear hK K
        exact L_ret ⟨.inr rfl, _, rfl, h⟩
    · have hi' : i = n := by omega
      subst hi'
      rw [List.drop_eq_nil_of_le (by omega)] at hc
      rw [← hc] at h
      refine L_reg [2] (fun K hK => ?_)
      simp
      apply hK; clear hK K
      exact L_ret ⟨.inr rfl, _, rfl, h⟩
  · rw [if_neg h1] at h
    have h1' : ¬ ((1 : Int) ≤ l.length ∧ (l.length : Int) ≤ 20) := by omega
    refine L_reg [0, 7] (fun K hK => ?_)
    simp [okFn_low]
    refine in_ac _ _ _ _ _ ?_
    simp [decide_eq_false h1']
    apply hK; clear hK K
    refine L_true (by simp) ?_
    refine L_reg [2] (fun K hK => ?_)
    simp
    apply hK; clear hK K
    exact L_ret ⟨.inr rfl, _, rfl, h⟩
theorem chkS_zero {n : Nat} : ∀ {l pre : List Int}, chkS n pre l = 0 → (∀ x ∈ l, 0 ≤ x ∧ x < n) ∧ (∀ x ∈ l, x ∉ pre) ∧ l.Nodup
  | [], _, _ => ⟨by simp, by simp, .nil⟩
  | x :: l, pre, h => by
    simp only [chkS] at h
    split at h
    · rename_i h1
      split at h
      · cases h
      · rename_i h2
        obtain ⟨a, b, c⟩ := chkS_zero h
        refine ⟨?_, ?_, ?_⟩
        · intro y hy
          rcases List.mem_cons.1 hy with e | e
          · rw [e]; exact h1
          · exact a y e
        · intro y hy
          rcases List.mem_cons.1 hy with e | e
          · rw [e]; exact h2
          · exact fun hp => b y e (List.mem_append_left _ hp)
        · rw [List.nodup_cons]
          exact ⟨fun hx => b x hx (by simp), c⟩
    · cases h
theorem checkP_zero {l : List Int} (h : checkP l = 0) : 1 ≤ l.length ∧ l.length ≤ 20 ∧ (∀ x ∈ l, 0 ≤ x ∧ x < l.length) ∧ l.Nodup := by
  unfold checkP at h
  split at h
  · rename_i h1
    obtain ⟨a, -, c⟩ := chkS_zero h
    exact ⟨h1.1, h1.2, a, c⟩
  · cases h
end Go.Proofs.Ytmlhekfkniibmaa

/- Remainders of an order, and its count. -/
namespace Go.Proofs.Ytmlhekfkniibmaa
open Go Go.Proofs.Ytmlhekfkniibmaa.AX

def remS : List Int → List Int → List Int
  | [], _ => []
  | x :: l, sit => (((idx x sit).toNat + 1) % sit.length : Nat) :: remS l (rot sit (idx x sit).toNat)
theorem remS_len : ∀ (l sit : List Int), (remS l sit).length = l.length
  | [], _ => rfl
  | x :: l, sit => by simp [remS, remS_len l]
def remL (l : List Int) : List Int := remS l (allS l.length)
/-- What still goes sits. -/
structure Sits (l sit : List Int) : Prop where
  len : sit.length = l.length
  mem : ∀ x ∈ l, x ∈ sit
  nd : l.Nodup
  sd : sit.Nodup
theorem Sits.step {x : Int} {l sit : List Int} (h : Sits (x :: l) sit) : ∃ p : Nat, idx x sit = p ∧ p < sit.length ∧ Sits l (rot sit p) ∧ g sit p = x := by
  have h1 := idx_mem (h.mem x (by simp))
  obtain ⟨p, hp⟩ : ∃ p : Nat, idx x sit = p := ⟨(idx x sit).toNat, by omega⟩
  obtain ⟨h2, h3⟩ := idx_get hp
  have hn := List.nodup_cons.1 h.nd
  refine ⟨p, hp, h2, ⟨?_, ?_, hn.2, (rot_nodup h2 h.sd).2⟩, h3⟩
  · rw [rot_len h2, h.len]; simp
  · intro y hy
    rcases (rot_mem h2).1 (h.mem y (by simp [hy])) with e | e
    · rw [h3] at e; rw [e] at hy; exact absurd hy hn.1
    · exact e
theorem sits_all {l : List Int} (h : checkP l = 0) : Sits l (allS l.length) := by
  obtain ⟨h1, h2, h3, h4⟩ := checkP_zero h
  exact ⟨allS_len _, fun x hx => mem_allS.2 (h3 x hx), h4, allS_nodup _⟩
set_option maxRecDepth 100000 in
set_option maxHeartbeats 1000000 in
theorem remainders_ac (v : AV) (l : List Int) (H : AH) (Q : AV → AH → Prop) (hv : Ls H v l) (hc : checkP l = 0) (h : ∀ v H', OwnF H.length H' v ((remL l).map (.int .i64)) → Ext H H' → Q v H') : AC Try.prog 59 [v] H Q := by
  obtain ⟨h1, h2, -, -⟩ := checkP_zero hc
  have hS := sits_all hc
  obtain ⟨r, off, ver, sz, full, rfl, hld⟩ := id hv
  refine L_body 37 Try.func59 rfl rfl ?_
  obtain ⟨r', rfl, rfl, -⟩ := hld 0 (by omega)
  have hrd : ∀ i, i < l.length → ld H r' (off + i) ver = some (.int .i64 (g l i)) := fun i hi => by
    obtain ⟨r2, e1, -, e3⟩ := hld i hi
    obtain rfl := Option.some.inj e1
    rw [g_lt hi]; exact e3
  clear hld hv
  unfold remL at h
  obtain ⟨n, hn⟩ : ∃ n, n = l.length := ⟨_, rfl⟩
  rw [← hn] at h1 h2 hS hrd h ⊢
  refine L_reg [0] (fun K hK => ?_)
  simp
  apply hK; clear hK K
  refine L_reg [0, 3] (fun K hK => ?_)
  simp [make_z elz22 (show n ≤ 16777216 by omega)]
  apply hK; clear hK K
  have hE1 : Ext H (H ++ [AObj.row (List.replicate n (AV.int .i64 0)) 0 0 false]) := .push _ _
  have hw : Rw H.length 0 (H ++ [AObj.row (List.replicate n (AV.int .i64 0)) 0 0 false]) (List.replicate n 0) := ⟨0, by simp⟩
  have hl1 : H.length < (H ++ [AObj.row (List.replicate n (AV.int .i64 0)) 0 0 false]).length := by simp
  generalize H ++ [AObj.row (List.replicate n (AV.int .i64 0)) 0 0 false] = H1 at hE1 hw hl1 ⊢
  generalize hp : H.length = p at *
  refine L_reg [0, 3, 4] (fun K hK => ?_)
  simp [okFn_low]
  refine full_ac n (by omega) _ _ (fun H2 r2 E2 => ?_)
  simp
  apply hK; clear hK K
  have hw2 := hw.ext E2
  refine L_reg [3, 4, 14, 15, 16] (fun K hK => ?_)
  simp
  apply hK; clear hK K
  refine L_block (L_loopV [4, 16] (fun m vs H' => ∃ (i : Nat) (b : Bool) (done sit d : List Int), m = n - i ∧ i ≤ n ∧ done.length = i ∧ Sits (l.drop i) sit ∧ vs = [SV b H1.length i (n - i) 0, .int .i64 i] ∧ d.length = n ∧ d.take i ++ remS (l.drop i) sit = remS l (allS n) ∧ Rw H1.length 0 H' (done ++ sit) ∧ Rw p 0 H' d ∧ Ext H H') _ [SV false H1.length 0 n 0, .int .i64 0] rfl ⟨0, false, [], allS n, _, rfl, by omega, rfl, hS, rfl, by simp, rfl, r2, hw2, hE1.trans E2⟩ ?_)
  rintro m _ H3 ⟨i, b, done, sit, d, rfl, hi, hdl, hs, rfl, hdn, hd, hrow, hrd2, hE⟩
  refine L_reg [3, 4, 14, 15, 16, 17] (fun K hK => ?_)
  simp
  apply hK; clear hK K
  refine L_dec (i < n) (by simp) (fun hlt => ?_) (fun hge => L_exit ?_)
  · refine L_block ?_
    have hx := hE.ld (hrd i hlt)
    have hdr : l.drop i = g l i :: l.drop (i + 1) := by rw [g_lt (by omega)]; exact List.drop_eq_getElem_cons (by omega)
    have hsl := hs.len
    rw [List.length_drop, ← hn] at hsl
    rw [hdr] at hs hd
    obtain ⟨q, hq, hql, hs', hgx⟩ := hs.step
    simp only [remS] at hd
    rw [hq, Int.toNat_natCast] at hd
    generalize hy : g l i = y at *
    rw [hsl] at hql hd
    obtain ⟨j, hj⟩ : ∃ j, n - i = j + 1 := ⟨n - i - 1, by omega⟩
    rw [hj] at hsl hql hd ⊢
    obtain ⟨s, hs0⟩ : ∃ s : Nat, s = j + 1 := ⟨_, rfl⟩
    rw [← hs0] at hsl hql hd ⊢
    have em := tmod_nat (q + 1) s
    push_cast at em
    obtain ⟨t, ht⟩ : ∃ t : Nat, t = (q + 1) % s := ⟨_, rfl⟩
    have em2 : ((q : Int) + 1).tmod s = (t : Int) := by rw [em, ht]; rfl
    rw [← ht] at hd
    obtain ⟨H4, e1, e2, e3⟩ := hrd2.put (i := i) (by omega) (t : Int)
    have hrow4 : Rw H1.length 0 H4 (done ++ sit) := by
      obtain ⟨st, hh⟩ := hrow
      exact ⟨st, e3.row (by omega) hh⟩
    refine L_reg [3, 4, 5, 6, 14, 15, 16] (fun K hK => ?_)
    simp [hx, hlt]
    apply hK; clear hK K
    refine L_reg [3, 4, 5, 7, 14, 15, 16] (fun K hK => ?_)
    simp [okFn_low]
    refine IndexS_ac b H1.length 0 i s y done sit _ _ hrow hdl hsl (by omega) ?_
    simp [hq]
    apply hK; clear hK K
    refine L_reg [3, 4, 7, 14, 15, 16] (fun K hK => ?_)
    simp [wrap_i64 (a := (q : Int) + 1) (by omega), show s ≠ 0 by omega, em2, hlt, e1]
    apply hK; clear hK K
    refine L_reg [3, 4, 14, 15, 16] (fun K hK => ?_)
    simp [okFn_low]
    refine leave_ac b H1.length 0 q i s done sit _ _ hrow4 hdl hsl hql (by omega) (fun H5 r5 k5 => ?_)
    simp
    apply hK; clear hK K
    refine L_reg [3, 4, 14, 15, 16] (fun K hK => ?_)
    simp [wrap_i64 (a := (i : Int) + 1) (by omega)]
    apply hK; clear hK K
    have hrd5 : Rw p 0 H5 (d.set i t) := by
      obtain ⟨st, hh⟩ := e2
      exact ⟨st, k5.row (by omega) hh⟩
    have hlen5 : H.length ≤ H1.length := hE1.1
    refine ⟨n - (i + 1), [SV true H1.length (i + 1) (s - 1) 0, .int .i64 (i + 1 : Nat)], by omega, by simp, i + 1, true, done ++ [g sit q], rot sit q, d.set i t, rfl, by omega, by simp [hdl], hs', ?_, by simpa using hdn, ?_, r5, hrd5, k5.new (e3.new hE (by omega)) hlen5⟩
    · rw [show n - (i + 1) = s - 1 by omega]
    · rw [← hd, List.take_set, List.take_add_one, List.getElem?_eq_getElem (by omega)]
      simp only [Option.toList_some]
      rw [List.set_append_right _ _ (by simp; omega)]
      simp [show min i d.length = i by omega]
  · have hi' : i = n := by omega
    subst hi'
    rw [List.drop_eq_nil_of_le (by omega)] at hd
    simp only [remS, List.append_nil] at hd
    rw [List.take_of_length_le (by omega)] at hd
    have ho := hrd2.ownF (N := p) (Nat.le_refl _)
    rw [hdn, hd] at ho
    refine L_reg [2] (fun K hK => ?_)
    simp
    apply hK; clear hK K
    exact L_ret ⟨.inr rfl, _, rfl, h _ H3 ho hE⟩
set_option maxRecDepth 100000 in
set_option maxHeartbeats 1000000 in
theorem remaindersR_ac (v : AV) (l : List Int) (H : AH) (Q : AV → AH → Prop) (hv : Ls H v l) (hc : checkP l = 0) (h : ∀ v H', OwnF H.length H' v ((remL l).map (.int .i64)) → Ext H H' → Q v H') : AC Try.prog 60 [v] H Q := by
  obtain ⟨h1, h2, -, -⟩ := checkP_zero hc
  have hS := sits_all hc
  obtain ⟨r, off, ver, sz, full, rfl, hld⟩ := id hv
  refine L_body 34 Try.func60 rfl rfl ?_
  obtain ⟨r', rfl, rfl, -⟩ := hld 0 (by omega)
  have hrd : ∀ i, i < l.length → ld H r' (off + i) ver = some (.int .i64 (g l i)) := fun i hi => by
    obtain ⟨r2, e1, -, e3⟩ := hld i hi
    obtain rfl := Option.some.inj e1
    rw [g_lt hi]; exact e3
  clear hld hv
  unfold remL at h
  obtain ⟨n, hn⟩ : ∃ n, n = l.length := ⟨_, rfl⟩
  rw [← hn] at h1 h2 hS hrd h ⊢
  refine L_reg [0] (fun K hK => ?_)
  simp
  apply hK; clear hK K
  refine L_reg [0, 3] (fun K hK => ?_)
  simp
  apply hK; clear hK K
  refine L_reg [0, 3, 4] (fun K hK => ?_)
  simp [okFn_low]
  refine all_ac n (by omega) _ _ (fun w0 H0 o0 E0 => ?_)
  simp
  apply hK; clear hK K
  refine L_reg [0, 3, 4, 5] (fun K hK => ?_)
  simp
  apply hK; clear hK K
  refine L_block (L_loopV [3, 4, 5] (fun m vs H' => ∃ (i : Nat) (v w : AV) (done sit : List Int), m = n - i ∧ i ≤ n ∧ done.length = i ∧ Sits (l.drop i) sit ∧ done ++ remS (l.drop i) sit = remS l (allS n) ∧ vs = [v, w, .int .i64 i] ∧ OwnF H.length H' v (done.map (.int .i64)) ∧ OwnF H.length H' w (sit.map (.int .i64)) ∧ (∀ r, rowOf w = some r → rowOf v ≠ some r) ∧ Ext H H') _ [.slice none 0 0 0 1 false, w0, .int .i64 0] rfl ⟨0, _, w0, [], allS n, rfl, by omega, rfl, hS, rfl, rfl, .nil _ _, o0, fun r _ e => (by cases e), E0⟩ ?_)
  rintro m _ H1 ⟨i, v, w, done, sit, rfl, hi, hdl, hs, hd, rfl, hO, hw1, hap, hE⟩
  have hw0 := hw1.own.ls
  refine L_reg [0, 3, 4, 5, 13] (fun K hK => ?_)
  simp
  apply hK; clear hK K
  refine L_dec (i < n) (by simp) (fun hlt => ?_) (fun hge => L_exit ?_)
  · refine L_block ?_
    have hx := hE.ld (hrd i hlt)
    have hdr : l.drop i = g l i :: l.drop (i + 1) := by rw [g_lt (by omega)]; exact List.drop_eq_getElem_cons (by omega)
    have hsl := hs.len
    rw [List.length_drop, ← hn] at hsl
    rw [hdr] at hs hd
    obtain ⟨q, hq, hql, hs', hgx⟩ := hs.step
    simp only [remS] at hd
    rw [hq, Int.toNat_natCast] at hd
    generalize hy : g l i = y at *
    rw [hsl] at hql hd
    obtain ⟨s, hs0⟩ : ∃ s : Nat, s = n - i := ⟨_, rfl⟩
    rw [← hs0] at hsl hql hd
    have em := tmod_nat (q + 1) s
    push_cast at em
    obtain ⟨t, ht⟩ : ∃ t : Nat, t = (q + 1) % s := ⟨_, rfl⟩
    have em2 : ((q : Int) + 1).tmod s = (t : Int) := by rw [em, ht]; rfl
    rw [← ht] at hd
    obtain ⟨v', H2, happ, hO2, hE2, hst, ⟨rv, hrv, hrv2⟩, hlen2⟩ := ownF_append2 hE el22 el22 (x := .int .i64 (t : Int)) (m := 1) hO rfl (by simp; omega)
    have hw2 := ls_keep hw0 (H' := H2) (fun j hj hr => hst j hj (hap j hr))
    obtain ⟨ro, offo, vero, szo, fullo, rfl, -⟩ := id hw0
    rw [hsl] at hw2 hw0 ⊢
    refine L_reg [0, 3, 4, 5, 6] (fun K hK => ?_)
    simp [okFn_low, hx, hlt]
    refine place_ac _ sit y _ _ (by omega) hw0 ?_
    simp [hq]
    apply hK; clear hK K
    refine L_reg [0, 3, 4, 5, 6] (fun K hK => ?_)
    simp [wrap_i64 (a := (q : Int) + 1) (by omega), show s ≠ 0 by omega, em2, happ]
    apply hK; clear hK K
    refine L_reg [0, 3, 4, 5] (fun K hK => ?_)
    simp [okFn_low]
    refine after_ac _ sit q (by omega) (by omega) _ _ hw2 (fun w2 H3 o3 E3 => ?_)
    simp
    apply hK; clear hK K
    refine L_reg [0, 3, 4, 5] (fun K hK => ?_)
    simp [wrap_i64 (a := (i : Int) + 1) (by omega)]
    apply hK; clear hK K
    refine ⟨n - (i + 1), [v', w2, .int .i64 (i + 1 : Nat)], by omega, by simp, i + 1, v', w2, done ++ [(t : Int)], rot sit q, rfl, by omega, by simp [hdl], hs', by rw [List.append_assoc]; exact hd, rfl, ?_, o3.mono (by have := hE2.1; omega), fun r hr hr2 => ?_, hE2.trans E3⟩
    · have : OwnF H.length H2 v' ((done ++ [(t : Int)]).map (.int .i64)) := by simpa using hO2
      exact ownF_ext this E3
    · have g1 := ownF_rowlt o3 hr
      have g2 := ownF_rowlt hO2 hr2
      omega
  · have hi' : i = n := by omega
    subst hi'
    rw [List.drop_eq_nil_of_le (by omega)] at hd
    simp only [remS, List.append_nil] at hd
    subst hd
    refine L_reg [2] (fun K hK => ?_)
    simp
    apply hK; clear hK K
    exact L_ret ⟨.inr rfl, _, rfl, h v H1 hO hE⟩
def remP (l : List Int) : List Int := if checkP l = 0 then remL l else []
theorem Remainders_ac (v : AV) (l : List Int) (H : AH) (Q : AV → AH → Prop) (hv : Ls H v l) (hlen : l.length ≤ 1000000) (h : ∀ v H', OwnF H.length H' v ((remP l).map (.int .i64)) → Ext H H' → Q (.tuple [v, .int .i64 (checkP l)]) H') : AC Try.prog 27 [v] H Q := by
  refine L_body 12 Try.func27 rfl rfl ?_
  refine L_reg [0] (fun K hK => ?_)
  simp
  apply hK; clear hK K
  refine L_reg [0, 4] (fun K hK => ?_)
  simp [okFn_low]
  refine Check_ac v l _ _ hv hlen ?_
  simp
  apply hK; clear hK K
  refine L_reg [0, 4, 8] (fun K hK => ?_)
  simp
  apply hK; clear hK K
  unfold remP at h
  by_cases h0 : checkP l = 0
  · rw [if_pos h0, h0] at h
    refine L_false (by simp [h0]) ?_
    refine L_reg [2, 3] (fun K hK => ?_)
    simp [okFn_low]
    refine remainders_ac v l _ _ hv h0 (fun w H1 o1 E1 => ?_)
    simp
    apply hK; clear hK K
    exact L_ret ⟨.inr rfl, _, rfl, h w H1 o1 E1⟩
  · rw [if_neg h0] at h
    refine L_true (by simp [h0]) ?_
    refine L_reg [2, 3] (fun K hK => ?_)
    simp
    apply hK; clear hK K
    exact L_ret ⟨.inr rfl, _, rfl, h _ _ (.nil _ _) (.refl _)⟩
theorem RemaindersR_ac (v : AV) (l : List Int) (H : AH) (Q : AV → AH → Prop) (hv : Ls H v l) (hlen : l.length ≤ 1000000) (h : ∀ v H', OwnF H.length H' v ((remP l).map (.int .i64)) → Ext H H' → Q (.tuple [v, .int .i64 (checkP l)]) H') : AC Try.prog 28 [v] H Q := by
  refine L_body 12 Try.func28 rfl rfl ?_
  refine L_reg [0] (fun K hK => ?_)
  simp
  apply hK; clear hK K
  refine L_reg [0, 4] (fun K hK => ?_)
  simp [okFn_low]
  refine CheckR_ac v l _ _ hv hlen ?_
  simp
  apply hK; clear hK K
  refine L_reg [0, 4, 8] (fun K hK => ?_)
  simp
  apply hK; clear hK K
  unfold remP at h
  by_cases h0 : checkP l = 0
  · rw [if_pos h0, h0] at h
    refine L_false (by simp [h0]) ?_
    refine L_reg [2, 3] (fun K hK => ?_)
    simp [okFn_low]
    refine remaindersR_ac v l _ _ hv h0 (fun w H1 o1 E1 => ?_)
    simp
    apply hK; clear hK K
    exact L_ret ⟨.inr rfl, _, rfl, h w H1 o1 E1⟩
  · rw [if_neg h0] at h
    refine L_true (by simp [h0]) ?_
    refine L_reg [2, 3] (fun K hK => ?_)
    simp
    apply hK; clear hK K
    exact L_ret ⟨.inr rfl, _, rfl, h _ _ (.nil _ _) (.refl _)⟩
end Go.Proofs.Ytmlhekfkniibmaa

/- Loops whose rounds end behind a condition: some slots alone are compared. -/
namespace Go.Proofs.Ytmlhekfkniibmaa
open Go Go.Proofs.Ytmlhekfkniibmaa.AX
section
variable {P : Program} {nt : Nat} {e : Env} {H : AH}
theorem L_loopK (ks : List Nat) {c : Code} {cs : List Code} {Q : Ex → Env → AH → Prop} (ts : List Nat) (I : Nat → List AV → AH → Prop) (n0 : Nat) (vs0 : List AV) (hk : ekeep ks e = e) (he : esets e ts vs0 = e) (h0 : I n0 vs0 H)
    (round : ∀ n vs H, I n vs H → AWL P nt (flat c) (esets e ts vs) H fun x e' H' => match x with | .normal => ∃ n' vs', n' < n ∧ ekeep ks e' = esets e ts vs' ∧ I n' vs' H' | x => More P nt cs Q x e' H') : AWL P nt (.loop c :: cs) e H Q := by
  refine AWL_cons (AW_loop (fun n e1 H1 => ∃ vs, ekeep ks e1 = esets e ts vs ∧ I n vs H1) n0 ⟨vs0, by rw [hk, he], h0⟩ ?_)
  rintro n e1 H1 ⟨vs, he1, hI⟩
  refine AW.keepE ks ?_
  rw [he1]
  refine AW_of_flat (AWL_mono (fun x e' H' hx => ?_) (round n vs H1 hI))
  cases x with
  | normal => obtain ⟨n', vs', h1, h2, h3⟩ := hx; exact ⟨n', h1, vs', h2, h3⟩
  | exit i => exact hx
  | goto i => exact hx
  | ret => exact hx
end
end Go.Proofs.Ytmlhekfkniibmaa

/- The smallest count with some remainders. -/
namespace Go.Proofs.Ytmlhekfkniibmaa
open Go Go.Proofs.Ytmlhekfkniibmaa.AX

/-- All counts with C are c, c + S, c + 2 S and so on. -/
def Gen (C : Nat → Prop) (S c : Nat) : Prop := 1 ≤ c ∧ c ≤ S ∧ ∀ k, 1 ≤ k → (C k ↔ ∃ i, k = c + i * S)
theorem gen_start : Gen (fun _ => True) 1 1 := ⟨by omega, by omega, fun k hk => ⟨fun _ => ⟨k - 1, by omega⟩, fun _ => trivial⟩⟩
theorem lcm_times {S d : Nat} (hS : 0 < S) (hd : 0 < d) : ∃ t, Nat.lcm S d = S * t ∧ 0 < t ∧ d ∣ S * t := by
  obtain ⟨t, ht⟩ := Nat.dvd_lcm_left S d
  refine ⟨t, ht, ?_, ?_⟩
  · rcases Nat.eq_zero_or_pos t with e | e
    · rw [e, Nat.mul_zero] at ht
      have := Nat.lcm_pos hS hd; omega
    · exact e
  · rw [← ht]; exact Nat.dvd_lcm_right S d
theorem mod_add_dvd {a b d : Nat} (h : d ∣ b) : (a + b) % d = a % d := by
  obtain ⟨t, rfl⟩ := h
  exact Nat.add_mul_mod_self_left a d t
theorem gen_next {C : Nat → Prop} {S c d r i : Nat} (h : Gen C S c) (hd : 0 < d) (hi : (c + i * S) % d = r) (hmin : ∀ j, j < i → (c + j * S) % d ≠ r) : Gen (fun k => C k ∧ k % d = r) (Nat.lcm S d) (c + i * S) := by
  obtain ⟨h1, h2, h3⟩ := h
  have hS : 0 < S := by omega
  obtain ⟨t, ht, ht0, hdt⟩ := lcm_times hS hd
  rw [ht]
  have hit : i < t := by
    rcases Nat.lt_or_ge i t with e | e
    · exact e
    · exfalso
      refine hmin (i - t) (by omega) ?_
      rw [← hi]
      have : c + i * S = (c + (i - t) * S) + S * t := by
        rw [Nat.sub_mul, Nat.mul_comm S t]
        have := Nat.mul_le_mul_right S e
        omega
      rw [this, mod_add_dvd hdt]
  refine ⟨by omega, ?_, fun k hk => ⟨?_, ?_⟩⟩
  · have : (i + 1) * S ≤ t * S := Nat.mul_le_mul_right S (by omega)
    rw [Nat.succ_mul] at this
    rw [Nat.mul_comm S t]
    omega
  · rintro ⟨hC, hr⟩
    obtain ⟨j, rfl⟩ := (h3 k hk).1 hC
    have hij : i ≤ j := by
      rcases Nat.lt_or_ge j i with e | e
      · exact absurd hr (hmin j e)
      · exact e
    obtain ⟨m, rfl⟩ : ∃ m, j = i + m := ⟨j - i, by omega⟩
    have e1 : c + (i + m) * S = (c + i * S) + m * S := by rw [Nat.add_mul]; omega
    have hdm : d ∣ m * S := by
      rw [e1, ← hi] at hr
      have h4 := Nat.sub_mod_eq_zero_of_mod_eq hr
      have h5 : c + i * S + m * S - (c + i * S) = m * S := by omega
      rw [h5] at h4
      exact Nat.dvd_of_mod_eq_zero h4
    have hl : Nat.lcm S d ∣ m * S := Nat.lcm_dvd (Nat.dvd_mul_left S m) hdm
    rw [ht] at hl
    obtain ⟨q, hq⟩ := hl
    exact ⟨q, by rw [e1, hq, Nat.mul_comm q]⟩
  · rintro ⟨q, rfl⟩
    have e1 : c + i * S + q * (S * t) = c + (i + q * t) * S := by
      rw [Nat.add_mul, Nat.add_assoc, Nat.mul_assoc, Nat.mul_comm t S]
    refine ⟨(h3 _ hk).2 ⟨i + q * t, e1⟩, ?_⟩
    rw [mod_add_dvd (Nat.dvd_trans hdt (Nat.dvd_mul_left _ _))]
    exact hi
/-- Nothing fits when nothing up to the next one fits. -/
theorem gen_none {C : Nat → Prop} {S c d r : Nat} (h : Gen C S c) (hd : 0 < d) (hn : ∀ j, c + j * S ≤ Nat.lcm S d → (c + j * S) % d ≠ r) : ∀ k, 1 ≤ k → ¬ (C k ∧ k % d = r) := by
  obtain ⟨h1, h2, h3⟩ := h
  have hS : 0 < S := by omega
  obtain ⟨t, ht, ht0, hdt⟩ := lcm_times hS hd
  rw [ht] at hn
  rintro k hk ⟨hC, hr⟩
  obtain ⟨j, rfl⟩ := (h3 k hk).1 hC
  refine hn (j % t) ?_ ?_
  · have h4 := Nat.mod_lt j ht0
    have : (j % t + 1) * S ≤ t * S := Nat.mul_le_mul_right S (by omega)
    rw [Nat.succ_mul] at this
    rw [Nat.mul_comm S t]; omega
  · rw [← hr]
    have h4 := Nat.div_add_mod j t
    have : c + j * S = (c + j % t * S) + (j / t) * (S * t) := by
      conv => lhs; rw [← h4]
      rw [Nat.add_mul, Nat.mul_comm t, Nat.mul_assoc, Nat.mul_comm t S]; omega
    rw [this, mod_add_dvd (Nat.dvd_trans hdt (Nat.dvd_mul_left _ _))]
theorem gen_none2 {C : Nat → Prop} {S c d r : Nat} (h : Gen C S c) (hd : 0 < d) (hn : ∀ j, j ≤ d → (c + j * S) % d ≠ r) : ∀ k, 1 ≤ k → ¬ (C k ∧ k % d = r) := by
  refine gen_none h hd fun j hj hr => ?_
  refine hn (j % d) (Nat.le_of_lt (Nat.mod_lt j hd)) ?_
  rw [← hr]
  have h4 := Nat.div_add_mod j d
  have : c + j * S = (c + j % d * S) + d * ((j / d) * S) := by
    conv => lhs; rw [← h4]
    rw [Nat.add_mul, Nat.mul_assoc]; omega
  rw [this, mod_add_dvd (Nat.dvd_mul_right _ _)]
/-- A count leaves the remainders of a list, from a place on. -/
def Fits (rs : List Int) (k : Nat) : Prop := ∀ i, i < rs.length → ((k % (rs.length - i) : Nat) : Int) = g rs i
/-- The smallest one. -/
def Least (C : Nat → Prop) (k : Nat) : Prop := 1 ≤ k ∧ C k ∧ ∀ j, 1 ≤ j → C j → k ≤ j
theorem Least.eq {C : Nat → Prop} {k j : Nat} (h : Least C k) (h' : Least C j) : k = j := by
  have h1 := h.2.2 j h'.1 h'.2.1
  have h2 := h'.2.2 k h.1 h.2.1
  omega
theorem gen_least {C : Nat → Prop} {S c : Nat} (h : Gen C S c) : Least C c := by
  obtain ⟨h1, h2, h3⟩ := h
  refine ⟨h1, (h3 c h1).2 ⟨0, by omega⟩, fun j hj hC => ?_⟩
  obtain ⟨i, rfl⟩ := (h3 j hj).1 hC
  omega
theorem gen_congr {C D : Nat → Prop} {S c : Nat} (h : Gen C S c) (e : ∀ k, C k ↔ D k) : Gen D S c := ⟨h.1, h.2.1, fun k hk => by rw [← e]; exact h.2.2 k hk⟩
theorem nat_int_mod {a d : Nat} {r : Int} (h0 : 0 ≤ r) : ((a % d : Nat) : Int) = r ↔ a % d = r.toNat := by omega
theorem lcm_dvd_S {n d S : Nat} (hS : S ∣ lcmS n) (hd : 0 < d) (hdn : d ≤ n) : Nat.lcm S d ∣ lcmS n := by
  refine Nat.lcm_dvd hS ?_
  have h1 : d ∣ lcmS d := by
    cases d with
    | zero => omega
    | succ d => exact Nat.dvd_lcm_right _ _
  exact Nat.dvd_trans h1 (lcmS_mono hdn)
/-- What is asked up to a place. -/
def FitI (rs : List Int) (p k : Nat) : Prop := ∀ i, i < p → ((k % (rs.length - i) : Nat) : Int) = g rs i
theorem fitI_succ {rs : List Int} {p : Nat} (k : Nat) : (FitI rs p k ∧ ((k % (rs.length - p) : Nat) : Int) = g rs p) ↔ FitI rs (p + 1) k := by
  constructor
  · rintro ⟨h1, h2⟩ i hi
    rcases Nat.lt_or_ge i p with e | e
    · exact h1 i e
    · rw [show i = p by omega]; exact h2
  · intro h
    exact ⟨fun i hi => h i (by omega), h p (by omega)⟩
set_option maxRecDepth 100000 in
set_option maxHeartbeats 1000000 in
theorem countOf_ac (v : AV) (rs : List Int) (H : AH) (Q : AV → AH → Prop) (hv : Ls H v rs) (hl0 : 1 ≤ rs.length) (hl : rs.length ≤ 20) (hpos : ∀ i, i < rs.length → 0 ≤ g rs i)
    (h1 : ∀ k : Nat, Least (Fits rs) k → Q (.tuple [.int .i64 k, .bool true]) H) (h2 : (∀ k, 1 ≤ k → ¬ Fits rs k) → Q (.tuple [.int .i64 0, .bool false]) H) : AC Try.prog 61 [v] H Q := by
  obtain ⟨r, off, ver, sz, full, rfl, hld⟩ := id hv
  refine L_body 38 Try.func61 rfl rfl ?_
  obtain ⟨r', rfl, rfl, -⟩ := hld 0 (by omega)
  have hrd : ∀ i, i < rs.length → ld H r' (off + i) ver = some (.int .i64 (g rs i)) := fun i hi => by
    obtain ⟨r2, e1, -, e3⟩ := hld i hi
    obtain rfl := Option.some.inj e1
    rw [g_lt hi]; exact e3
  clear hld hv
  obtain ⟨n, hn⟩ : ∃ n, n = rs.length := ⟨_, rfl⟩
  rw [← hn] at hl0 hl hpos hrd ⊢
  refine L_reg [0] (fun K hK => ?_)
  simp
  apply hK; clear hK K
  refine L_reg [0, 4, 5] (fun K hK => ?_)
  simp
  apply hK; clear hK K
  refine L_reg [0, 4, 5, 10, 11, 12] (fun K hK => ?_)
  simp
  apply hK; clear hK K
  refine L_block (L_loopV [4, 5, 12] (fun m vs H' => ∃ (p c S : Nat), m = n - p ∧ p ≤ n ∧ Gen (FitI rs p) S c ∧ S ∣ lcmS n ∧ vs = [.int .i64 c, .int .i64 S, .int .i64 p] ∧ H = H') _ [.int .i64 1, .int .i64 1, .int .i64 0] rfl ⟨0, 1, 1, rfl, by omega, gen_congr gen_start (fun k => ⟨fun _ i hi => by omega, fun _ => trivial⟩), Nat.one_dvd _, rfl, rfl⟩ ?_)
  rintro m _ _ ⟨p, c, S, rfl, hp, hG, hS, rfl, rfl⟩
  refine L_reg [0, 4, 5, 10, 11, 12, 13] (fun K hK => ?_)
  simp
  apply hK; clear hK K
  refine L_dec (p < n) (by simp) (fun hlt => ?_) (fun hge => L_exit ?_)
  · refine L_block ?_
    have hx := hrd p hlt
    obtain ⟨d, hd⟩ : ∃ d : Nat, d = n - p := ⟨_, rfl⟩
    have hdi : (n : Int) - p = (d : Int) := by omega
    have hS0 : 0 < S := by have := hG.1; have := hG.2.1; omega
    have hLd := lcm_dvd_S hS (show 0 < d by omega) (show d ≤ n by omega)
    have hSl : S ≤ 232792560 := Nat.le_trans (Nat.le_of_dvd (lcmS_pos n) hS) (lcmS_le hl)
    have hLl : Nat.lcm S d ≤ 232792560 := Nat.le_trans (Nat.le_of_dvd (lcmS_pos n) hLd) (lcmS_le hl)
    have hr0 := hpos p hlt
    have hcm := common_ac S d hS0 (by omega) (by omega) (by omega) H
    obtain ⟨L, hL⟩ : ∃ L : Nat, L = Nat.lcm S d := ⟨_, rfl⟩
    have hstep : ∀ k, (FitI rs p k ∧ k % d = (g rs p).toNat) ↔ FitI rs (p + 1) k := fun k => by
      rw [← fitI_succ, ← hn, ← hd, nat_int_mod hr0]
    rw [← hL] at hLd hLl hcm
    generalize hy : g rs p = y at *
    refine L_reg [0, 4, 5, 6, 7, 10, 11, 12] (fun K hK => ?_)
    simp [hx, hlt]
    apply hK; clear hK K
    refine L_reg [0, 4, 5, 7, 8, 10, 11, 12] (fun K hK => ?_)
    simp [hdi, wrap_i64 (a := (d : Int)) (by omega)]
    apply hK; clear hK K
    refine L_reg [0, 4, 5, 7, 8, 9, 10, 11, 12] (fun K hK => ?_)
    simp [okFn_low]
    refine hcm _ ?_
    simp
    apply hK; clear hK K
    have hd0 : d ≠ 0 := by omega
    have hcl := hG.2.1
    have hS2 : S ∣ L := by rw [hL]; exact Nat.dvd_lcm_left _ _
    have hSL := Nat.le_of_dvd (by rw [hL]; exact Nat.lcm_pos hS0 (by omega)) hS2
    refine L_block (L_loopK [0, 4, 5, 7, 8, 9, 10, 11, 12] [4] (fun m vs H' => ∃ (i k : Nat), m = L - k ∧ k = c + i * S ∧ k ≤ L ∧ (∀ j, j < i → (c + j * S) % d ≠ y.toNat) ∧ vs = [.int .i64 k] ∧ H = H') _ [.int .i64 c] rfl rfl ⟨0, c, rfl, by omega, by omega, fun j hj => by omega, rfl, rfl⟩ ?_)
    rintro m _ _ ⟨i, k, rfl, hk, hkL, hmin, rfl, rfl⟩
    have em := tmod_nat k d
    generalize hm : k % d = km at em
    refine L_reg [0, 4, 5, 7, 8, 9, 10, 11, 12, 28] (fun K hK => ?_)
    simp [hd0, em]
    apply hK; clear hK K
    by_cases hfit : (km : Int) = y
    · refine L_false (by simp [hfit]) (L_exit ?_)
      have hG' := gen_next hG (show 0 < d by omega) (show (c + i * S) % d = y.toNat by rw [← hk]; omega) hmin
      rw [← hk, ← hL] at hG'
      refine L_reg [0, 4, 5, 10, 11, 12] (fun K hK => ?_)
      simp
      apply hK; clear hK K
      refine L_reg [0, 4, 5, 10, 11, 12] (fun K hK => ?_)
      simp [wrap_i64 (a := (p : Int) + 1) (by omega)]
      apply hK; clear hK K
      exact ⟨n - (p + 1), [.int .i64 k, .int .i64 L, .int .i64 (p + 1 : Nat)], by omega, by simp, p + 1, k, L, rfl, by omega, gen_congr hG' hstep, hLd, rfl, rfl⟩
    · refine L_true (by simp [hfit]) (L_block ?_)
      have hnf : (c + i * S) % d ≠ y.toNat := by rw [← hk]; omega
      have hmin' : ∀ j, j < i + 1 → (c + j * S) % d ≠ y.toNat := fun j hj => by
        rcases Nat.lt_or_ge j i with e | e
        · exact hmin j e
        · rw [show j = i by omega]; exact hnf
      have hks : k + S = c + (i + 1) * S := by rw [hk, Nat.succ_mul]; omega
      refine L_reg [0, 4, 5, 7, 8, 9, 10, 11, 12] (fun K hK => ?_)
      simp [wrap_i64 (a := (k : Int) + S) (by omega)]
      apply hK; clear hK K
      refine L_reg [0, 4, 5, 7, 8, 9, 10, 11, 12, 34] (fun K hK => ?_)
      simp
      apply hK; clear hK K
      refine L_dec ((L : Int) < (k : Int) + S) (by simp) (fun hgt => ?_) (fun hle => ?_)
      · have hno := gen_none (r := y.toNat) hG (show 0 < d by omega) (fun j hj => hmin' j (by
          rcases Nat.lt_or_ge j (i + 1) with e | e
          · exact e
          · have := Nat.mul_le_mul_right S e
            rw [← hL] at hj; omega))
        refine L_reg [2, 3] (fun K hK => ?_)
        simp
        apply hK; clear hK K
        exact L_ret ⟨.inr rfl, _, rfl, h2 fun k hk hF => hno k hk ((hstep k).2 (fun i hi => hF i (by omega)))⟩
      · exact ⟨L - (k + S), [.int .i64 (k + S : Nat)], by omega, by simp, i + 1, k + S, rfl, hks, by omega, hmin', rfl, rfl⟩
  · have hp' : p = n := by omega
    subst hp'
    refine L_reg [2, 3] (fun K hK => ?_)
    simp
    apply hK; clear hK K
    exact L_ret ⟨.inr rfl, _, rfl, h1 c (by rw [hn] at hG; exact gen_least hG)⟩
/-- What is asked for the last places. -/
def FitR (rs : List Int) (m k : Nat) : Prop := ∀ i, i < rs.length → rs.length - i < m → ((k % (rs.length - i) : Nat) : Int) = g rs i
theorem fitR_succ {rs : List Int} {m : Nat} (h1 : 1 ≤ m) (h2 : m ≤ rs.length) (k : Nat) : (FitR rs m k ∧ ((k % m : Nat) : Int) = g rs (rs.length - m)) ↔ FitR rs (m + 1) k := by
  constructor
  · rintro ⟨h3, h4⟩ i hi hm
    rcases Nat.lt_or_ge (rs.length - i) m with e | e
    · exact h3 i hi e
    · have e1 : rs.length - i = m := by omega
      have e2 : rs.length - m = i := by omega
      rw [e1, h4, e2]
  · intro h
    refine ⟨fun i hi hm => h i hi (by omega), ?_⟩
    have := h (rs.length - m) (by omega) (by omega)
    rw [show rs.length - (rs.length - m) = m by omega] at this
    exact this
theorem remS_pos : ∀ (l sit : List Int) (i : Nat), i < (remS l sit).length → 0 ≤ g (remS l sit) i
  | [], _, i, h => by simp [remS] at h
  | x :: l, sit, 0, _ => by simp only [remS, g, List.getD_cons_zero]; omega
  | x :: l, sit, i + 1, h => by
    have := remS_pos l (rot sit (idx x sit).toNat) i (by simpa [remS] using h)
    simpa [remS, g] using this
def countQ (l : List Int) (H : AH) (Q : AV → AH → Prop) : Prop :=
  (checkP l ≠ 0 → Q (.tuple [.int .i64 0, .int .i64 (checkP l)]) H) ∧ (checkP l = 0 → (∀ k : Nat, Least (Fits (remL l)) k → Q (.tuple [.int .i64 k, .int .i64 0]) H) ∧ ((∀ k, 1 ≤ k → ¬ Fits (remL l) k) → Q (.tuple [.int .i64 0, .int .i64 12]) H))
theorem Count_ac (v : AV) (l : List Int) (H : AH) (Q : AV → AH → Prop) (hv : Ls H v l) (hlen : l.length ≤ 1000000) (h : ∀ H', Ext H H' → countQ l H' Q) : AC Try.prog 29 [v] H Q := by
  refine L_body 21 Try.func29 rfl rfl ?_
  refine L_reg [0] (fun K hK => ?_)
  simp
  apply hK; clear hK K
  refine L_reg [0, 4] (fun K hK => ?_)
  simp [okFn_low]
  refine Check_ac v l _ _ hv hlen ?_
  simp
  apply hK; clear hK K
  refine L_reg [0, 4, 10] (fun K hK => ?_)
  simp
  apply hK; clear hK K
  by_cases h0 : checkP l = 0
  · refine L_false (by simp [h0]) ?_
    obtain ⟨a1, a2, -, -⟩ := checkP_zero h0
    have hrl : (remL l).length = l.length := remS_len _ _
    have hrp := remS_pos l (allS l.length)
    refine L_reg [5, 6] (fun K hK => ?_)
    simp [okFn_low]
    refine remainders_ac v l _ _ hv h0 (fun w H1 o1 E1 => ?_)
    obtain ⟨q1, q2⟩ := (h H1 E1).2 h0
    simp [okFn_low]
    refine countOf_ac w (remL l) _ _ o1.own.ls (by omega) (by omega) hrp (fun k hk => ?_) (fun hno => ?_)
    · simp
      apply hK; clear hK K
      refine L_reg [5, 19] (fun K hK => ?_)
      simp
      apply hK; clear hK K
      refine L_false (by simp) ?_
      refine L_reg [2, 3] (fun K hK => ?_)
      simp
      apply hK; clear hK K
      exact L_ret ⟨.inr rfl, _, rfl, q1 k hk⟩
    · simp
      apply hK; clear hK K
      refine L_reg [5, 19] (fun K hK => ?_)
      simp
      apply hK; clear hK K
      refine L_true (by simp) ?_
      refine L_reg [2, 3] (fun K hK => ?_)
      simp
      apply hK; clear hK K
      exact L_ret ⟨.inr rfl, _, rfl, q2 hno⟩
  · refine L_true (by simp [h0]) ?_
    refine L_reg [2, 3] (fun K hK => ?_)
    simp
    apply hK; clear hK K
    exact L_ret ⟨.inr rfl, _, rfl, (h H (.refl _)).1 h0⟩
set_option maxRecDepth 100000 in
set_option maxHeartbeats 1000000 in
theorem CountR_ac (v : AV) (l : List Int) (H : AH) (Q : AV → AH → Prop) (hv : Ls H v l) (hlen : l.length ≤ 1000000) (h : ∀ H', Ext H H' → countQ l H' Q) : AC Try.prog 30 [v] H Q := by
  refine L_body 46 Try.func30 rfl rfl ?_
  refine L_reg [0] (fun K hK => ?_)
  simp
  apply hK; clear hK K
  refine L_reg [0, 4] (fun K hK => ?_)
  simp [okFn_low]
  refine CheckR_ac v l _ _ hv hlen ?_
  simp
  apply hK; clear hK K
  refine L_reg [0, 4, 13] (fun K hK => ?_)
  simp
  apply hK; clear hK K
  by_cases h0 : checkP l = 0
  · refine L_false (by simp [h0]) ?_
    obtain ⟨a1, a2, -, -⟩ := checkP_zero h0
    have hrl : (remL l).length = l.length := remS_len _ _
    have hrp := remS_pos l (allS l.length)
    refine L_reg [0, 5] (fun K hK => ?_)
    simp [okFn_low]
    refine remaindersR_ac v l _ _ hv h0 (fun w H1 o1 E1 => ?_)
    simp
    apply hK; clear hK K
    obtain ⟨q1, q2⟩ := (h H1 E1).2 h0
    have hv1 := hv.ext E1
    have hrs := o1.own.ls
    have hrp : ∀ i, i < (remL l).length → 0 ≤ g (remL l) i := hrp
    generalize remL l = rs at *
    obtain ⟨ro, offo, vero, szo, fullo, rfl, -⟩ := id hv1
    obtain ⟨r, off, ver, sz, full, rfl, hld⟩ := id hrs
    obtain ⟨r', rfl, rfl, -⟩ := hld 0 (by omega)
    have hrd : ∀ i, i < rs.length → ld H1 r' (off + i) ver = some (.int .i64 (g rs i)) := fun i hi => by
      obtain ⟨r2, e1, -, e3⟩ := hld i hi
      obtain rfl := Option.some.inj e1
      rw [g_lt hi]; exact e3
    clear hld hrs hv1 o1 hv h E1
    obtain ⟨n, hn⟩ : ∃ n, n = rs.length := ⟨_, rfl⟩
    rw [← hrl, ← hn] at a1 a2 ⊢
    rw [← hn] at hrp hrd
    refine L_reg [0, 5, 6] (fun K hK => ?_)
    simp
    apply hK; clear hK K
    refine L_reg [0, 5, 6, 7] (fun K hK => ?_)
    simp
    apply hK; clear hK K
    refine L_block (L_loopV [6, 7] (fun s vs H' => ∃ (m c : Nat), s = n + 1 - m ∧ 1 ≤ m ∧ m ≤ n + 1 ∧ Gen (FitR rs m) (lcmS (m - 1)) c ∧ vs = [.int .i64 c, .int .i64 m] ∧ H1 = H') _ [.int .i64 1, .int .i64 1] rfl ⟨1, 1, rfl, by omega, by omega, gen_congr gen_start (fun k => ⟨fun _ i hi hm => by omega, fun _ => trivial⟩), rfl, rfl⟩ ?_)
    rintro s _ _ ⟨m, c, rfl, hm1, hm2, hG, rfl, rfl⟩
    refine L_reg [0, 5, 6, 7, 20] (fun K hK => ?_)
    simp
    apply hK; clear hK K
    refine L_dec (m ≤ n) (by simp) (fun hlt => ?_) (fun hge => L_exit ?_)
    · refine L_block ?_
      obtain ⟨j, hj⟩ : ∃ j, m = j + 1 := ⟨m - 1, by omega⟩
      have hmi : (m : Int) - 1 = (j : Int) := by omega
      have hx := hrd (n - m) (by omega)
      have hr0 := hrp (n - m) (by omega)
      have hnm : (n : Int) - m = ((n - m : Nat) : Int) := by omega
      rw [show m - 1 = j by omega] at hG
      have hoj := ordersR_ac j (by omega) H1
      have hLn : Nat.lcm (lcmS j) m = lcmS m := by rw [hj]; rfl
      have hS0 := lcmS_pos j
      have hSl := lcmS_le (show j ≤ 20 by omega)
      have hstep : ∀ k, (FitR rs m k ∧ k % m = (g rs (n - m)).toNat) ↔ FitR rs (m + 1) k := fun k => by
        rw [← fitR_succ hm1 (by omega), ← hn, nat_int_mod hr0]
      generalize lcmS j = S at *
      generalize hy : g rs (n - m) = y at *
      refine L_reg [0, 5, 6, 7, 8] (fun K hK => ?_)
      simp [okFn_low, hmi, wrap_i64 (a := (j : Int)) (by omega)]
      refine hoj _ ?_
      simp
      apply hK; clear hK K
      refine L_reg [0, 5, 6, 7, 8, 9] (fun K hK => ?_)
      simp
      apply hK; clear hK K
      have hm0 : m ≠ 0 := by omega
      have hcl := hG.2.1
      refine L_block (L_loopK [0, 5, 6, 7, 8, 9] [6, 9] (fun s vs H' => ∃ (i k : Nat), s = m + 1 - i ∧ k = c + i * S ∧ i ≤ m ∧ (∀ j, j < i → (c + j * S) % m ≠ y.toNat) ∧ vs = [.int .i64 k, .int .i64 i] ∧ H1 = H') _ [.int .i64 c, .int .i64 0] rfl rfl ⟨0, c, rfl, by omega, by omega, fun j hj => by omega, rfl, rfl⟩ ?_)
      rintro s _ _ ⟨i, k, rfl, hk, him, hmin, rfl, rfl⟩
      have em := tmod_nat k m
      have hiS : i * S ≤ 21 * 232792560 := Nat.mul_le_mul (by omega) hSl
      generalize hkm : k % m = km at em
      obtain ⟨q, hq⟩ : ∃ q : Nat, q = n - m := ⟨_, rfl⟩
      rw [← hq] at hnm hx
      have hqn : q < n := by omega
      refine L_regQ mixed [0, 5, 6, 7, 8, 9, 36] (by kernel_rfl) (fun K hK => ?_)
      simp [hm0, em, hnm, wrap_i64 (a := (q : Int)) (by omega), hx, hqn]
      apply hK; clear hK K
      by_cases hfit : (km : Int) = y
      · refine L_false (by simp [hfit]) (L_exit ?_)
        have hG' := gen_next hG (show 0 < m by omega) (show (c + i * S) % m = y.toNat by rw [← hk]; omega) hmin
        rw [← hk, hLn] at hG'
        refine L_reg [0, 5, 6, 7] (fun K hK => ?_)
        simp [wrap_i64 (a := (m : Int) + 1) (by omega)]
        apply hK; clear hK K
        exact ⟨n + 1 - (m + 1), [.int .i64 k, .int .i64 (m + 1 : Nat)], by omega, by simp, m + 1, k, rfl, by omega, by omega, gen_congr hG' hstep, rfl, rfl⟩
      · refine L_true (by simp [hfit]) (L_block ?_)
        have hnf : (c + i * S) % m ≠ y.toNat := by rw [← hk]; omega
        have hmin' : ∀ j, j < i + 1 → (c + j * S) % m ≠ y.toNat := fun j hj => by
          rcases Nat.lt_or_ge j i with e | e
          · exact hmin j e
          · rw [show j = i by omega]; exact hnf
        have hks : k + S = c + (i + 1) * S := by rw [hk, Nat.succ_mul]; omega
        refine L_reg [0, 5, 6, 7, 8, 9] (fun K hK => ?_)
        simp [wrap_i64 (a := (k : Int) + S) (by omega)]
        apply hK; clear hK K
        refine L_reg [0, 5, 6, 7, 8, 9] (fun K hK => ?_)
        simp [wrap_i64 (a := (i : Int) + 1) (by omega)]
        apply hK; clear hK K
        refine L_reg [0, 5, 6, 7, 8, 9, 44] (fun K hK => ?_)
        simp
        apply hK; clear hK K
        refine L_dec (m < i + 1) (by simp; omega) (fun hgt => ?_) (fun hle => ?_)
        · have hno := gen_none2 (r := y.toNat) hG (show 0 < m by omega) (fun j hj => hmin' j (by omega))
          refine L_reg [2, 3] (fun K hK => ?_)
          simp
          apply hK; clear hK K
          exact L_ret ⟨.inr rfl, _, rfl, q2 fun k hk hF => hno k hk ((hstep k).2 (fun i hi _ => hF i hi))⟩
        · exact ⟨m + 1 - (i + 1), [.int .i64 (k + S : Nat), .int .i64 (i + 1 : Nat)], by omega, by simp, i + 1, k + S, rfl, hks, by omega, hmin', rfl, rfl⟩
    · have hm' : m = n + 1 := by omega
      subst hm'
      refine L_reg [2, 3] (fun K hK => ?_)
      simp
      apply hK; clear hK K
      exact L_ret ⟨.inr rfl, _, rfl, q1 c (gen_least (gen_congr hG (fun k => ⟨fun h i hi => h i hi (by omega), fun h i hi _ => h i hi⟩)))⟩
  · refine L_true (by simp [h0]) ?_
    refine L_reg [2, 3] (fun K hK => ?_)
    simp
    apply hK; clear hK K
    exact L_ret ⟨.inr rfl, _, rfl, (h H (.refl _)).1 h0⟩
end Go.Proofs.Ytmlhekfkniibmaa

/- BenchCounts, walked. -/
namespace Go.Proofs.Ytmlhekfkniibmaa
open Go Go.Proofs.Ytmlhekfkniibmaa.AX
theorem checkP_case (l : List Int) : checkP l ≠ 0 ∨ checkP l = 0 := by omega
theorem remP_len (l : List Int) : (remP l).length ≤ 20 := by
  unfold remP
  split
  · rename_i h
    have := (checkP_zero h).2.1
    unfold remL; rw [remS_len]; exact this
  · simp
set_option maxHeartbeats 1000000 in
theorem benchCounts_ac (v : AV) (l : List Int) (H : AH) (hv : Ls H v l) : AC Try.prog 5 [v] H fun u _ => u = .bool true := by
  obtain ⟨r, off, ver, sz, full, rfl, -⟩ := id hv
  refine L_body 63 Try.func5 rfl rfl ?_
  refine L_reg [0] (fun K hK => ?_)
  simp
  apply hK; clear hK K
  refine L_reg [0, 13] (fun K hK => ?_)
  simp
  apply hK; clear hK K
  refine L_dec (60 < (l.length : Int)) (by simp) (fun hgt => ?_) (fun hle => ?_)
  · refine L_reg [2] (fun K hK => ?_)
    simp [okFn_low]
    refine works_ac _ _ ?_
    simp
    apply hK; clear hK K
    exact L_ret ⟨.inr rfl, _, rfl, rfl⟩
  · have hlen : l.length ≤ 1000000 := by omega
    refine L_reg [0, 3, 4] (fun K hK => ?_)
    simp [okFn_low]
    refine Remainders_ac _ l _ _ hv hlen (fun v1 H1 o1 E1 => ?_)
    simp
    apply hK; clear hK K
    refine L_reg [0, 3, 4, 5, 6] (fun K hK => ?_)
    simp [okFn_low]
    refine RemaindersR_ac _ l _ _ (hv.ext E1) hlen (fun v2 H2 o2 E2 => ?_)
    simp
    apply hK; clear hK K
    have hv2 := (hv.ext E1).ext E2
    refine L_reg [0, 3, 4, 5, 6, 7, 8] (fun K hK => ?_)
    simp [okFn_low]
    refine Count_ac _ l _ _ hv2 hlen (fun H3 E3 => ?_)
    have hv3 := hv2.ext E3
    refine ⟨fun h0 => ?_, fun h0 => ⟨fun k hk => ?_, fun hno => ?_⟩⟩
    · simp
      apply hK; clear hK K
      refine L_reg [0, 3, 4, 5, 6, 7, 8, 9, 10] (fun K hK => ?_)
      simp [okFn_low]
      refine CountR_ac _ l _ _ hv3 hlen (fun H4 E4 => ?_)
      refine ⟨fun _ => ?_, fun h1 => absurd h1 h0⟩
      simp
      apply hK; clear hK K
      refine L_reg [2] (fun K hK => ?_)
      simp [okFn_low]
      refine same_ac v1 v2 (remP l) (remP l) _ _ (by have := remP_len l; omega) (((o1.own.ls.ext E2).ext E3).ext E4) ((o2.own.ls.ext E3).ext E4) ?_
      simp [okFn_low, pickV]
      refine Check_ac _ l _ _ (hv3.ext E4) hlen ?_
      simp [okFn_low]
      refine CheckR_ac _ l _ _ (hv3.ext E4) hlen ?_
      simp [okFn_low, pickV]
      refine works_ac _ _ ?_
      simp [pickV]
      apply hK; clear hK K
      exact L_ret ⟨.inr rfl, _, rfl, rfl⟩
    · simp
      apply hK; clear hK K
      refine L_reg [0, 3, 4, 5, 6, 7, 8, 9, 10] (fun K hK => ?_)
      simp [okFn_low]
      refine CountR_ac _ l _ _ hv3 hlen (fun H4 E4 => ?_)
      refine ⟨fun h1 => absurd h0 h1, fun _ => ⟨fun k2 hk2 => ?_, fun hno => absurd hk.2.1 (hno k hk.1)⟩⟩
      obtain rfl := hk.eq hk2
      simp
      apply hK; clear hK K
      refine L_reg [2] (fun K hK => ?_)
      simp [okFn_low]
      refine same_ac v1 v2 (remP l) (remP l) _ _ (by have := remP_len l; omega) (((o1.own.ls.ext E2).ext E3).ext E4) ((o2.own.ls.ext E3).ext E4) ?_
      simp [okFn_low, pickV]
      refine Check_ac _ l _ _ (hv3.ext E4) hlen ?_
      simp [okFn_low]
      refine CheckR_ac _ l _ _ (hv3.ext E4) hlen ?_
      simp [okFn_low, pickV]
      refine works_ac _ _ ?_
      simp [pickV]
      apply hK; clear hK K
      exact L_ret ⟨.inr rfl, _, rfl, rfl⟩
    · simp
      apply hK; clear hK K
      refine L_reg [0, 3, 4, 5, 6, 7, 8, 9, 10] (fun K hK => ?_)
      simp [okFn_low]
      refine CountR_ac _ l _ _ hv3 hlen (fun H4 E4 => ?_)
      refine ⟨fun h1 => absurd h0 h1, fun _ => ⟨fun k2 hk2 => absurd hk2.2.1 (hno k2 hk2.1), fun _ => ?_⟩⟩
      simp
      apply hK; clear hK K
      refine L_reg [2] (fun K hK => ?_)
      simp [okFn_low]
      refine same_ac v1 v2 (remP l) (remP l) _ _ (by have := remP_len l; omega) (((o1.own.ls.ext E2).ext E3).ext E4) ((o2.own.ls.ext E3).ext E4) ?_
      simp [okFn_low, pickV]
      refine Check_ac _ l _ _ (hv3.ext E4) hlen ?_
      simp [okFn_low]
      refine CheckR_ac _ l _ _ (hv3.ext E4) hlen ?_
      simp [okFn_low, pickV]
      refine works_ac _ _ ?_
      simp [pickV]
      apply hK; clear hK K
      exact L_ret ⟨.inr rfl, _, rfl, rfl⟩
end Go.Proofs.Ytmlhekfkniibmaa
