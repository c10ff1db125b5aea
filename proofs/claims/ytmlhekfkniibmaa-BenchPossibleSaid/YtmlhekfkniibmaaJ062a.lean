/- Joined texts: Base, TF, Works, Perm, Seats, App, Orders, Refs, Pub, Cnt, Same, Lcm, Chk, Rem, LoopK, Crt, WCounts, SrtM, OSort1, OSort2, OSort3, OPart, OPart2, OHeap, OHeap2, OBrk, OPins, OPdq, OSort, Jos, Small, Home, WGrown, TurnM, HomeR, Ints, SrcM, Sim, Counts, Poss, PossT, PossP, WSeated. -/
import Derived.Test.YtmlhekfkniibmaaChecked
import Derived.Test.YtmlhekfkniibmaaAxQ
import Derived.Test.YtmlhekfkniibmaaAxR
/- What is run, and what is kept between its statements. -/
namespace Go.Proofs.Ytmlhekfkniibmaa
open Go Go.Proofs.Ytmlhekfkniibmaa.AX Go.RowKit
set_option maxRecDepth 100000

def keepT (f : Nat) : List Nat :=
  bif Nat.ble f 55 then bif Nat.ble f 27 then bif Nat.ble f 13 then bif Nat.ble f 6 then bif Nat.ble f 3 then bif Nat.ble f 1 then bif Nat.ble f 0 then [] else [] else bif Nat.ble f 2 then [] else [0, 1, 2, 6, 7, 8, 9, 10, 11, 12, 13, 14, 15, 16, 59] else bif Nat.ble f 5 then bif Nat.ble f 4 then [0, 1, 2, 6, 7, 8, 9, 10, 11, 12, 13, 14] else [0, 2, 3, 4, 5, 6, 7, 8, 9, 10, 13] else [0, 1, 2, 6, 7, 8, 9, 10, 11, 12, 13, 14, 17] else bif Nat.ble f 10 then bif Nat.ble f 8 then bif Nat.ble f 7 then [0, 2, 3, 4, 5, 6, 7, 8, 9, 11, 12, 13, 14, 15, 16, 17, 35, 39, 79, 86] else [0, 1, 4, 5, 6, 7, 8, 9, 10, 11, 12, 13, 14, 15, 16, 17, 18, 19, 20, 21, 23, 69, 70, 71, 72, 73, 125, 131, 132, 133, 134, 143] else bif Nat.ble f 9 then [0, 1, 4, 5, 6, 7, 8, 9, 10, 11, 12, 13, 14, 15, 16, 101, 102, 103, 104, 105, 111] else [0, 1, 4, 5, 6, 7, 8, 9, 10, 11, 12, 13, 14, 15, 16, 17, 18, 19, 38, 76, 77, 78, 79, 92, 125, 126, 127, 128, 129, 139] else bif Nat.ble f 12 then bif Nat.ble f 11 then [0, 1, 2, 6, 7, 8, 9, 10, 11, 12, 13, 14, 15, 16, 17, 18, 19, 20, 21, 22, 24, 33, 34, 35, 41, 68, 71, 72, 73, 82, 112, 117, 118, 119, 120, 134, 158, 160] else [0, 1, 2, 4, 5, 6, 7, 8, 9, 10, 11, 12, 14, 15, 16, 17, 18, 19, 20, 22, 23, 24, 25, 26, 28] else [0, 1, 4, 5, 6, 11] else bif Nat.ble f 20 then bif Nat.ble f 17 then bif Nat.ble f 15 then bif Nat.ble f 14 then [0, 1, 4, 5, 6, 11] else [0, 1, 4, 5, 6, 11] else bif Nat.ble f 16 then [0, 1, 4, 5, 6, 11] else [0, 1, 4, 5, 10, 14, 25] else bif Nat.ble f 19 then bif Nat.ble f 18 then [0, 1, 2, 6, 7, 8, 14] else [0, 1, 2, 6, 7, 8, 20, 22] else [0, 1, 2, 6, 7, 8, 14] else bif Nat.ble f 24 then bif Nat.ble f 22 then bif Nat.ble f 21 then [0, 1, 2, 6, 7, 8, 20, 22] else [0, 1, 2, 3, 4, 5, 6, 7, 8, 9, 10, 11, 12, 13, 14, 15, 16, 62] else bif Nat.ble f 23 then [0, 1, 2, 6, 7, 8, 14] else [0, 1, 2, 6, 7, 8, 9, 10, 22, 24, 31, 45] else bif Nat.ble f 26 then bif Nat.ble f 25 then [0, 2, 3, 6] else [0, 2, 3, 6] else [0, 2, 3, 4, 8] else bif Nat.ble f 41 then bif Nat.ble f 34 then bif Nat.ble f 31 then bif Nat.ble f 29 then bif Nat.ble f 28 then [0, 2, 3, 4, 8] else [0, 2, 3, 4, 5, 6, 10, 19] else bif Nat.ble f 30 then [0, 2, 3, 4, 5, 6, 7, 8, 9, 13, 20, 36, 44] else [0, 2, 3, 4, 8, 9, 10, 11, 12, 20, 26] else bif Nat.ble f 33 then bif Nat.ble f 32 then [0, 2, 3, 7, 11, 22, 31] else [0, 1, 2, 3, 4, 5, 8, 12] else [0, 1, 4, 5, 6, 9, 14, 16, 27] else bif Nat.ble f 38 then bif Nat.ble f 36 then bif Nat.ble f 35 then [0, 1, 2, 3, 4, 5, 6, 11] else [0, 1, 4, 5, 6, 7, 8, 9, 10, 13, 17, 27, 41, 43, 52, 65] else bif Nat.ble f 37 then [0, 2, 3, 4, 5, 8, 18] else [0, 1, 4, 5, 6, 7, 14, 15, 16, 17, 18, 19, 27] else bif Nat.ble f 40 then bif Nat.ble f 39 then [0, 1, 2, 3, 4, 6, 7, 8, 9, 10, 11, 12, 13, 14, 15, 16, 17, 18, 19, 23, 24, 25, 26, 31, 61, 65, 78, 79, 80, 81, 107, 108, 109, 110, 116, 117, 118, 119, 125] else [0, 1, 4] else [0, 2] else bif Nat.ble f 48 then bif Nat.ble f 45 then bif Nat.ble f 43 then bif Nat.ble f 42 then [0, 1, 2, 6, 7, 16] else [0, 2] else bif Nat.ble f 44 then [0, 1, 4, 15] else [0, 1, 4, 5, 6, 10, 11, 12] else bif Nat.ble f 47 then bif Nat.ble f 46 then [0, 1, 4, 12] else [0, 1, 4, 5, 6, 7, 12] else [0, 1, 4] else bif Nat.ble f 52 then bif Nat.ble f 50 then bif Nat.ble f 49 then [0, 1, 2, 6, 7, 12, 17] else [0, 1, 4, 5, 7, 8, 9, 16] else bif Nat.ble f 51 then [0, 1, 2, 6] else [0, 1, 4, 5, 9, 17] else bif Nat.ble f 54 then bif Nat.ble f 53 then [0, 1, 2, 6, 7, 8, 9, 10, 13, 14, 15, 30] else [0, 2, 3, 4, 7] else [0, 1, 4, 5] else bif Nat.ble f 83 then bif Nat.ble f 69 then bif Nat.ble f 62 then bif Nat.ble f 59 then bif Nat.ble f 57 then bif Nat.ble f 56 then [0, 2] else [0, 2, 3, 4, 5, 6, 7] else bif Nat.ble f 58 then [0, 2, 3, 4, 5, 8, 15] else [0, 2, 3, 4, 5, 6, 7, 14, 15, 16, 17] else bif Nat.ble f 61 then bif Nat.ble f 60 then [0, 2, 3, 4, 5, 6, 13] else [0, 2, 3, 4, 5, 6, 7, 8, 9, 10, 11, 12, 13, 28, 34] else [0, 1, 4] else bif Nat.ble f 66 then bif Nat.ble f 64 then bif Nat.ble f 63 then [0, 2, 3, 4, 5, 6, 7, 13] else [0, 1, 2, 4] else bif Nat.ble f 65 then [0, 1, 4, 5, 6, 9, 10, 11, 12, 13, 20, 31] else [0, 1, 2, 4] else bif Nat.ble f 68 then bif Nat.ble f 67 then [0, 1, 2, 6, 7] else [0, 2, 4, 8] else [0, 2, 4, 8, 14] else bif Nat.ble f 76 then bif Nat.ble f 73 then bif Nat.ble f 71 then bif Nat.ble f 70 then [0, 2, 3, 4, 7, 8, 9] else [0, 1, 4, 5, 6] else bif Nat.ble f 72 then [0, 1, 4] else [0, 1, 4, 5, 7, 8, 9, 16] else bif Nat.ble f 75 then bif Nat.ble f 74 then [0, 1, 2, 6] else [0, 1, 4, 5, 10] else [0, 2] else bif Nat.ble f 80 then bif Nat.ble f 78 then bif Nat.ble f 77 then [0, 1, 4, 5, 10, 12, 13, 14, 24] else [0, 2, 3, 9] else bif Nat.ble f 79 then [0, 1, 2, 3, 8, 9, 10, 11, 12, 13, 14, 15, 16, 17, 18, 23, 29, 35, 50, 68, 72, 87, 113] else [0, 1, 2, 6, 7, 12, 30] else bif Nat.ble f 82 then bif Nat.ble f 81 then [0, 1, 2, 6, 7, 8, 9, 10, 19, 30] else [0, 1, 2, 6, 7, 8, 9, 10, 15, 33, 43] else [0, 1, 2, 6, 7, 8, 9, 10, 11, 12, 32, 34, 49, 51, 54] else bif Nat.ble f 97 then bif Nat.ble f 90 then bif Nat.ble f 87 then bif Nat.ble f 85 then bif Nat.ble f 84 then [0, 1, 2, 6, 7, 13] else [0, 1, 2, 6, 7, 8, 9, 10, 14, 32, 37, 41, 61, 65, 78, 98, 103, 116] else bif Nat.ble f 86 then [0, 1, 4] else [0, 1, 2, 3, 8, 9, 10, 43, 59, 64] else bif Nat.ble f 89 then bif Nat.ble f 88 then [0, 1, 2, 3, 8, 9, 10, 11, 43, 60, 65, 112, 129, 134] else [0, 1, 2, 3, 8, 9, 16, 36, 52] else [0, 2] else bif Nat.ble f 94 then bif Nat.ble f 92 then bif Nat.ble f 91 then [0, 2] else [0, 1, 2, 6] else bif Nat.ble f 93 then [0, 1, 2, 3, 4, 10] else [0, 2] else bif Nat.ble f 96 then bif Nat.ble f 95 then [0, 1, 2, 3, 8, 9, 18] else [] else [] else bif Nat.ble f 104 then bif Nat.ble f 101 then bif Nat.ble f 99 then bif Nat.ble f 98 then [] else [] else bif Nat.ble f 100 then [] else [] else bif Nat.ble f 103 then bif Nat.ble f 102 then [] else [] else [] else bif Nat.ble f 108 then bif Nat.ble f 106 then bif Nat.ble f 105 then [] else [] else bif Nat.ble f 107 then [] else [] else bif Nat.ble f 110 then bif Nat.ble f 109 then [] else [] else []

def goodT (f : Nat) : Bool := Nat.ble 3 f && Nat.ble f 95 && !(Nat.beq f 39)

noncomputable def cx : Cx Try.prog where
  good := goodT
  keep := keepT
  ext _ _ _ := none

theorem okAll : (List.range 96).all (fun f => !(Nat.ble 3 f) || okFn Try.prog f) = true := by kernel_rfl
theorem okFn_low {f : Nat} (h3 : 3 ≤ f) (h : f ≤ 95) : okFn Try.prog f = true := by
  have := (List.all_eq_true.1 okAll) f (List.mem_range.2 (by omega))
  have h1 : Nat.ble 3 f = true := Nat.ble_eq_true_of_le h3
  simpa [h1] using this

theorem goodAll : (List.range 96).all (fun f => !goodT f || fnOrd Try.prog f) = true := by kernel_rfl

theorem cx_ok : cx.Ok where
  mixed := by kernel_rfl
  ord f h := by
    have hlt : f < 96 := by
      have h1 : Nat.ble f 95 = true := by
        simp only [cx, goodT, Bool.and_eq_true] at h
        exact h.1.2
      exact Nat.lt_succ_of_le (Nat.le_of_ble_eq_true h1)
    have := (List.all_eq_true.1 goodAll) f (List.mem_range.2 hlt)
    have hg : goodT f = true := h
    rw [hg] at this
    simpa using this
  ext f args H v H' h := by cases h
theorem mixed : Try.prog.follows .mixedOrders = true := by kernel_rfl
end Go.Proofs.Ytmlhekfkniibmaa

/- What the steps ask of the types of this program. -/
namespace Go.Proofs.Ytmlhekfkniibmaa
open Go Go.Proofs.Ytmlhekfkniibmaa.AX
@[simp] theorem ld3 (H : AH) (r off ver : Nat) : loadV Try.prog 3 H (.ptr r off ver) = ld H r off ver := ld_sc (by kernel_rfl) ..
theorem sc3 : scal Try.prog 3 = true := by kernel_rfl
theorem zt3 : zeroT Try.prog 3 = some [.int .i64 0] := by kernel_rfl
@[simp] theorem ld4 (H : AH) (r off ver : Nat) : loadV Try.prog 4 H (.ptr r off ver) = ld H r off ver := ld_sc (by kernel_rfl) ..
theorem sc4 : scal Try.prog 4 = true := by kernel_rfl
theorem zt4 : zeroT Try.prog 4 = some [.bool false] := by kernel_rfl
@[simp] theorem ld9 (H : AH) (r off ver : Nat) : loadV Try.prog 9 H (.ptr r off ver) = ld H r off ver := ld_sc (by kernel_rfl) ..
theorem sc9 : scal Try.prog 9 = true := by kernel_rfl
@[simp] theorem ld22 (H : AH) (r off ver : Nat) : loadV Try.prog 22 H (.ptr r off ver) = ld H r off ver := ld_sc (by kernel_rfl) ..
theorem sc22 : scal Try.prog 22 = true := by kernel_rfl
theorem slz22 : slSz Try.prog 22 = some 1 := by kernel_rfl
@[simp] theorem len22 (r : Option Nat) (off len ver sz : Nat) (full : Bool) : aLen Try.prog 22 (.slice r off len ver sz full) = some (.int .i64 len) := len_sl slz22 ..
@[simp] theorem lenp22 (r off len ver sz : Nat) : aLen Try.prog 22 (.part r off len ver sz) = some (.int .i64 len) := len_part slz22 ..
@[simp] theorem ixa22 (r off len ver : Nat) (full : Bool) (k : IntKind) (i : Int) : aIndexAddr Try.prog 22 (.slice (some r) off len ver 1 full) (.int k i) = if 0 ≤ i ∧ i < len then some (.ptr r (off + i.toNat * 1) ver) else none := ixa_sl slz22 ..
@[simp] theorem ixap22 (r off len ver : Nat) (k : IntKind) (i : Int) : aIndexAddr Try.prog 22 (.part r off len ver 1) (.int k i) = if 0 ≤ i ∧ i < len then some (.ptr r (off + i.toNat * 1) ver) else none := ixa_part slz22 ..
theorem el22 : elT Try.prog 22 = true := by kernel_rfl
theorem elz22 : elZ Try.prog 22 = some (.int .i64 0) := by kernel_rfl
@[simp] theorem row22 (H : AH) (b : Int) : rowV Try.prog 22 1 [(0, .int .i64 b)] H = some (some (.slice (some H.length) 0 1 0 1 false), H ++ [.row [.int .i64 b] 0 1 false]) := row1 el22 rfl rfl
theorem zt22 : zeroT Try.prog 22 = some [.slice none 0 0 0 1 false] := by kernel_rfl
@[simp] theorem ld40 (H : AH) (r off ver : Nat) : loadV Try.prog 40 H (.ptr r off ver) = ld H r off ver := ld_sc (by kernel_rfl) ..
theorem sc40 : scal Try.prog 40 = true := by kernel_rfl
theorem zt40 : zeroT Try.prog 40 = some [.nilmap] := by kernel_rfl
theorem ar43 : arSz Try.prog 43 = some (6, 1) := by kernel_rfl
@[simp] theorem ixa43 (r off ver : Nat) (k : IntKind) (i : Int) : aIndexAddr Try.prog 43 (.ptr r off ver) (.int k i) = if 0 ≤ i ∧ i < (6 : Nat) then some (.ptr r (off + i.toNat * 1) ver) else none := ixa_ar ar43 ..
theorem ag43 : aggSz Try.prog 43 = some 6 := by kernel_rfl
@[simp] theorem ld43 (H : AH) (r off ver : Nat) : loadV Try.prog 43 H (.ptr r off ver) = (ldn H r ver 6 off).map .agg := load_agg ag43 ..
theorem zt43 : zeroT Try.prog 43 = some [.int .i64 0, .int .i64 0, .int .i64 0, .int .i64 0, .int .i64 0, .int .i64 0] := by kernel_rfl
@[simp] theorem ld44 (H : AH) (r off ver : Nat) : loadV Try.prog 44 H (.ptr r off ver) = ld H r off ver := ld_sc (by kernel_rfl) ..
theorem sc44 : scal Try.prog 44 = true := by kernel_rfl
theorem zt44 : zeroT Try.prog 44 = some [.nilfunc] := by kernel_rfl
@[simp] theorem ld48 (H : AH) (r off ver : Nat) : loadV Try.prog 48 H (.ptr r off ver) = ld H r off ver := ld_sc (by kernel_rfl) ..
theorem sc48 : scal Try.prog 48 = true := by kernel_rfl
@[simp] theorem ld50 (H : AH) (r off ver : Nat) : loadV Try.prog 50 H (.ptr r off ver) = ld H r off ver := ld_sc (by kernel_rfl) ..
theorem sc50 : scal Try.prog 50 = true := by kernel_rfl
@[simp] theorem ld63 (H : AH) (r off ver : Nat) : loadV Try.prog 63 H (.ptr r off ver) = ld H r off ver := ld_sc (by kernel_rfl) ..
theorem sc63 : scal Try.prog 63 = true := by kernel_rfl
@[simp] theorem ld70 (H : AH) (r off ver : Nat) : loadV Try.prog 70 H (.ptr r off ver) = ld H r off ver := ld_sc (by kernel_rfl) ..
theorem sc70 : scal Try.prog 70 = true := by kernel_rfl
theorem slz70 : slSz Try.prog 70 = some 1 := by kernel_rfl
@[simp] theorem len70 (r : Option Nat) (off len ver sz : Nat) (full : Bool) : aLen Try.prog 70 (.slice r off len ver sz full) = some (.int .i64 len) := len_sl slz70 ..
@[simp] theorem lenp70 (r off len ver sz : Nat) : aLen Try.prog 70 (.part r off len ver sz) = some (.int .i64 len) := len_part slz70 ..
@[simp] theorem ixa70 (r off len ver : Nat) (full : Bool) (k : IntKind) (i : Int) : aIndexAddr Try.prog 70 (.slice (some r) off len ver 1 full) (.int k i) = if 0 ≤ i ∧ i < len then some (.ptr r (off + i.toNat * 1) ver) else none := ixa_sl slz70 ..
@[simp] theorem ixap70 (r off len ver : Nat) (k : IntKind) (i : Int) : aIndexAddr Try.prog 70 (.part r off len ver 1) (.int k i) = if 0 ≤ i ∧ i < len then some (.ptr r (off + i.toNat * 1) ver) else none := ixa_part slz70 ..
theorem el70 : elT Try.prog 70 = true := by kernel_rfl
theorem elz70 : elZ Try.prog 70 = some (.bool false) := by kernel_rfl
@[simp] theorem ld73 (H : AH) (r off ver : Nat) : loadV Try.prog 73 H (.ptr r off ver) = ld H r off ver := ld_sc (by kernel_rfl) ..
theorem sc73 : scal Try.prog 73 = true := by kernel_rfl
@[simp] theorem ld74 (H : AH) (r off ver : Nat) : loadV Try.prog 74 H (.ptr r off ver) = ld H r off ver := ld_sc (by kernel_rfl) ..
theorem sc74 : scal Try.prog 74 = true := by kernel_rfl
theorem slz74 : slSz Try.prog 74 = some 1 := by kernel_rfl
@[simp] theorem len74 (r : Option Nat) (off len ver sz : Nat) (full : Bool) : aLen Try.prog 74 (.slice r off len ver sz full) = some (.int .i64 len) := len_sl slz74 ..
@[simp] theorem lenp74 (r off len ver sz : Nat) : aLen Try.prog 74 (.part r off len ver sz) = some (.int .i64 len) := len_part slz74 ..
@[simp] theorem ixa74 (r off len ver : Nat) (full : Bool) (k : IntKind) (i : Int) : aIndexAddr Try.prog 74 (.slice (some r) off len ver 1 full) (.int k i) = if 0 ≤ i ∧ i < len then some (.ptr r (off + i.toNat * 1) ver) else none := ixa_sl slz74 ..
@[simp] theorem ixap74 (r off len ver : Nat) (k : IntKind) (i : Int) : aIndexAddr Try.prog 74 (.part r off len ver 1) (.int k i) = if 0 ≤ i ∧ i < len then some (.ptr r (off + i.toNat * 1) ver) else none := ixa_part slz74 ..
theorem el74 : elT Try.prog 74 = true := by kernel_rfl
theorem elz74 : elZ Try.prog 74 = some (.int .i64 0) := by kernel_rfl
@[simp] theorem row74 (H : AH) (b : Int) : rowV Try.prog 74 1 [(0, .int .i64 b)] H = some (some (.slice (some H.length) 0 1 0 1 false), H ++ [.row [.int .i64 b] 0 1 false]) := row1 el74 rfl rfl
theorem zt74 : zeroT Try.prog 74 = some [.slice none 0 0 0 1 false] := by kernel_rfl
@[simp] theorem ld86 (H : AH) (r off ver : Nat) : loadV Try.prog 86 H (.ptr r off ver) = ld H r off ver := ld_sc (by kernel_rfl) ..
theorem sc86 : scal Try.prog 86 = true := by kernel_rfl
@[simp] theorem ld90 (H : AH) (r off ver : Nat) : loadV Try.prog 90 H (.ptr r off ver) = ld H r off ver := ld_sc (by kernel_rfl) ..
theorem sc90 : scal Try.prog 90 = true := by kernel_rfl
@[simp] theorem cv3_50 (k : IntKind) (n : Int) : aConv Try.prog 3 50 (.int k n) = some (.int .u64 (IntKind.u64.wrap n)) := cv_int (by kernel_rfl) (by kernel_rfl) n
@[simp] theorem cv3_86 (k : IntKind) (n : Int) : aConv Try.prog 3 86 (.int k n) = some (.int .u64 (IntKind.u64.wrap n)) := cv_int (by kernel_rfl) (by kernel_rfl) n
@[simp] theorem cv5_3 (k : IntKind) (n : Int) : aConv Try.prog 5 3 (.int k n) = some (.int .i64 (IntKind.i64.wrap n)) := cv_int (by kernel_rfl) (by kernel_rfl) n
@[simp] theorem cv48_3 (k : IntKind) (n : Int) : aConv Try.prog 48 3 (.int k n) = some (.int .i64 (IntKind.i64.wrap n)) := cv_int (by kernel_rfl) (by kernel_rfl) n
@[simp] theorem cv48_5 (k : IntKind) (n : Int) : aConv Try.prog 48 5 (.int k n) = some (.int .u8 (IntKind.u8.wrap n)) := cv_int (by kernel_rfl) (by kernel_rfl) n
@[simp] theorem cv50_3 (k : IntKind) (n : Int) : aConv Try.prog 50 3 (.int k n) = some (.int .i64 (IntKind.i64.wrap n)) := cv_int (by kernel_rfl) (by kernel_rfl) n
@[simp] theorem cv50_48 (k : IntKind) (n : Int) : aConv Try.prog 50 48 (.int k n) = some (.int .u32 (IntKind.u32.wrap n)) := cv_int (by kernel_rfl) (by kernel_rfl) n
@[simp] theorem cv73_5 (k : IntKind) (n : Int) : aConv Try.prog 73 5 (.int k n) = some (.int .u8 (IntKind.u8.wrap n)) := cv_int (by kernel_rfl) (by kernel_rfl) n
end Go.Proofs.Ytmlhekfkniibmaa

/- The examples that each law ends with. -/
namespace Go.Proofs.Ytmlhekfkniibmaa
open Go Go.Proofs.Ytmlhekfkniibmaa.AX
set_option maxRecDepth 100000
theorem works_run : callN (runZ cx 3000) 22 [] [] = some (.bool true, []) := by kernel_rfl
theorem works_ac (H : AH) (Q : AV → AH → Prop) (h : Q (.bool true) H) : AC Try.prog 22 [] H Q := AC_kernZ cx_ok 3000 works_run .nil (.bool _) h
/-- The same context, in which the examples are known. -/
noncomputable def cxw : Cx Try.prog where
  good := goodT
  keep := keepT
  ext f args H := bif Nat.beq f 22 then (match args with | [] => some (.bool true, H) | _ => none) else none
end Go.Proofs.Ytmlhekfkniibmaa

/- Lists that are mixed between two places. -/
namespace Go.Proofs.Ytmlhekfkniibmaa
open Go Go.Proofs.Ytmlhekfkniibmaa.AX

/-- What a temporary that is called calls. -/
def callW (P : Program) (v : AV) (xs : List AV) : Option (FuncId × List AV) := match v with
  | .func (.func f) first cap => if okFn P f then some (f, first ++ xs ++ cap) else none
  | _ => none
@[simp] theorem callW_f {P : Program} {f : FuncId} {first cap xs : List AV} : callW P (.func (.func f) first cap) xs = if okFn P f then some (f, first ++ xs ++ cap) else none := rfl
@[simp] theorem opcall_tmp {P : Program} {e : Env} {t : Tmp} {xs : Array Operand} {ts : Array TypeId} : opCall P (oval e) (.call ⟨.value (.tmp t), xs, ts⟩) = callW P (eget e t) (xs.toList.map (oval e)) := by
  simp only [opCall, oval, callW]
  cases eget e t <;> rfl

/-- All rows but one are as they were. -/
def KeepX (r : Nat) (H H' : AH) : Prop := H.length ≤ H'.length ∧ ∀ j : Nat, j ≠ r → j < H.length → H'[j]? = H[j]?
theorem KeepX.refl (r : Nat) (H : AH) : KeepX r H H := ⟨Nat.le_refl _, fun _ _ _ => rfl⟩
theorem KeepX.ext {r : Nat} {A B C : AH} (h : KeepX r A B) (k : Ext B C) : KeepX r A C := ⟨Nat.le_trans h.1 k.1, fun j h1 h2 => by rw [k.2 j (by have := h.1; omega), h.2 j h1 h2]⟩
theorem KeepX.set {r : Nat} {A B : AH} (h : KeepX r A B) (o : AObj) : KeepX r A (B.set r o) := ⟨by simpa using h.1, fun j h1 h2 => by rw [List.getElem?_set_ne (Ne.symm h1), h.2 j h1 h2]⟩
theorem KeepX.row {r : Nat} {H H' : AH} (h : KeepX r H H') {j : Nat} {o : AObj} (hj : j ≠ r) (ho : H[j]? = some o) : H'[j]? = some o := by
  rw [h.2 j hj (List.getElem?_eq_some_iff.1 ho).1]; exact ho
theorem KeepX.trans {r : Nat} {A B C : AH} (h : KeepX r A B) (k : KeepX r B C) : KeepX r A C := ⟨Nat.le_trans h.1 k.1, fun j h1 h2 => by rw [k.2 j h1 (by have := h.1; omega), h.2 j h1 h2]⟩

/-! ### Lists -/
def g (c : List Int) (i : Nat) : Int := c.getD i 0
theorem g_lt {c : List Int} {i : Nat} (h : i < c.length) : g c i = c[i] := by simp [g, List.getD_eq_getElem?_getD, h]
def sw (c : List Int) (i j : Nat) : List Int := (c.set i (g c j)).set j (g c i)
theorem sw_len (c : List Int) (i j : Nat) : (sw c i j).length = c.length := by simp [sw]
theorem g_sw {c : List Int} {i j : Nat} (hi : i < c.length) (hj : j < c.length) (k : Nat) : g (sw c i j) k = if k = j then g c i else if k = i then g c j else g c k := by
  unfold sw
  unfold g
  simp only [List.getD_eq_getElem?_getD, List.getElem?_set, List.length_set]
  by_cases h1 : k = j
  · subst h1; simp [hj]
  · by_cases h2 : k = i
    · subst h2; simp [h1, hi, Ne.symm h1]
    · simp [Ne.symm h1, Ne.symm h2, h1, h2]
theorem sw_perm {c : List Int} {i j : Nat} (hi : i < c.length) (hj : j < c.length) : (sw c i j).Perm c := by
  have h := Array.swap_perm (xs := c.toArray) (i := i) (j := j) (by simpa using hi) (by simpa using hj)
  have h2 := h.toList
  simp only [Array.swap, Array.toList_set] at h2
  have e1 : g c j = c[j] := g_lt hj
  have e2 : g c i = c[i] := g_lt hi
  simpa [sw, e1, e2] using h2
/-- Mixed between a and b. -/
def Shuf (a b : Nat) (c m : List Int) : Prop := m.Perm c ∧ ∀ k, k < a ∨ b ≤ k → g m k = g c k
theorem Shuf.refl (a b : Nat) (c : List Int) : Shuf a b c c := ⟨.refl _, fun _ _ => rfl⟩
theorem Shuf.len {a b : Nat} {c m : List Int} (h : Shuf a b c m) : m.length = c.length := h.1.length_eq
theorem Shuf.trans {a b : Nat} {c d m : List Int} (h : Shuf a b c d) (k : Shuf a b d m) : Shuf a b c m := ⟨k.1.trans h.1, fun i hi => by rw [k.2 i hi, h.2 i hi]⟩
theorem Shuf.wide {a b a' b' : Nat} {c m : List Int} (h : Shuf a b c m) (h1 : a' ≤ a) (h2 : b ≤ b') : Shuf a' b' c m := ⟨h.1, fun i hi => h.2 i (by omega)⟩
theorem Shuf.swap {a b i j : Nat} {c : List Int} (hb : b ≤ c.length) (hi : a ≤ i ∧ i < b) (hj : a ≤ j ∧ j < b) : Shuf a b c (sw c i j) :=
  ⟨sw_perm (by omega) (by omega), fun k hk => by rw [g_sw (by omega) (by omega), if_neg (by omega), if_neg (by omega)]⟩
def mid (a b : Nat) (c : List Int) : List Int := (c.drop a).take (b - a)
theorem mid_mem {a b : Nat} {c : List Int} (hb : b ≤ c.length) {x : Int} : x ∈ mid a b c ↔ ∃ k, a ≤ k ∧ k < b ∧ g c k = x := by
  unfold mid
  constructor
  · intro h
    obtain ⟨i, hi, rfl⟩ := List.mem_iff_getElem.1 h
    simp at hi
    exact ⟨a + i, by omega, by omega, by rw [g_lt (by omega)]; simp⟩
  · rintro ⟨k, h1, h2, rfl⟩
    rw [g_lt (by omega)]
    exact List.mem_iff_getElem.2 ⟨k - a, by simp; omega, by simp; congr 1; omega⟩
theorem Shuf.mid {a b : Nat} {c m : List Int} (h : Shuf a b c m) (hab : a ≤ b) (hb : b ≤ c.length) : (mid a b m).Perm (mid a b c) := by
  have hl := h.len
  have split : ∀ l : List Int, l = l.take a ++ (Go.Proofs.Ytmlhekfkniibmaa.mid a b l ++ l.drop b) := by
    intro l
    unfold Go.Proofs.Ytmlhekfkniibmaa.mid
    have : l.drop b = (l.drop a).drop (b - a) := by rw [List.drop_drop]; congr 1; omega
    rw [this, List.take_append_drop, List.take_append_drop]
  have e1 : m.take a = c.take a := by
    apply List.ext_getElem (by simp [hl])
    intro i h1 h2
    simp at h1 h2
    have := h.2 i (by omega)
    rw [g_lt (by omega), g_lt (by omega)] at this
    simpa using this
  have e2 : m.drop b = c.drop b := by
    apply List.ext_getElem (by simp [hl])
    intro i h1 h2
    simp at h1 h2
    have := h.2 (b + i) (by omega)
    rw [g_lt (by omega), g_lt (by omega)] at this
    simpa using this
  have hp := h.1
  rw [split m, split c, e1, e2] at hp
  exact (List.perm_append_right_iff _).1 ((List.perm_append_left_iff _).1 hp)
/-- What holds of all between, holds of all when they are mixed. -/
theorem Shuf.all {a b : Nat} {c m : List Int} (h : Shuf a b c m) (hb : b ≤ c.length) {p : Int → Prop} (hp : ∀ k, a ≤ k → k < b → p (g c k)) : ∀ k, a ≤ k → k < b → p (g m k) := by
  intro k h1 h2
  have hm : g m k ∈ Go.Proofs.Ytmlhekfkniibmaa.mid a b m := (mid_mem (by have := h.len; omega)).2 ⟨k, h1, h2, rfl⟩
  obtain ⟨k', h3, h4, h5⟩ := (mid_mem hb).1 ((h.mid (by omega) hb).mem_iff.1 hm)
  rw [← h5]; exact hp k' h3 h4

/-! ### Rows of integers -/
def Rw (r ver : Nat) (H : AH) (c : List Int) : Prop := ∃ s, H[r]? = some (.row (c.map (.int .i64)) ver s false)
theorem Rw.ld {r ver i : Nat} {H : AH} {c : List Int} (h : Rw r ver H c) (hi : i < c.length) : AX.ld H r i ver = some (.int .i64 (g c i)) := by
  obtain ⟨s, h⟩ := h
  rw [ld_row h, g_lt hi]; simp [hi]
theorem Rw.ext {r ver : Nat} {H H' : AH} {c : List Int} (h : Rw r ver H c) (hE : Ext H H') : Rw r ver H' c := by
  obtain ⟨s, h⟩ := h
  exact ⟨s, hE.row h⟩
theorem Rw.swap {r ver i j : Nat} {H : AH} {c : List Int} (h : Rw r ver H c) (hi : i < c.length) (hj : j < c.length) :
    ∃ H1 H2, storeV Try.prog 3 H (.ptr r i ver) (.int .i64 (g c j)) = some (none, H1) ∧ storeV Try.prog 3 H1 (.ptr r j ver) (.int .i64 (g c i)) = some (none, H2) ∧ Rw r ver H2 (sw c i j) ∧ KeepX r H H2 := by
  obtain ⟨s, h⟩ := h
  have h1 := store_row (P := Try.prog) (u := 3) (p := i) sc3 (x := .int .i64 (g c j)) (y := .int .i64 c[i]) rfl h (by simp [hi])
  have e1 : (c.map (AV.int .i64)).set i (.int .i64 (g c j)) = (c.set i (g c j)).map (.int .i64) := by rw [List.map_set]
  rw [e1] at h1
  have hr1 := get_set (o' := .row ((c.set i (g c j)).map (.int .i64)) ver (min s i) false) h
  have h2 := store_row (P := Try.prog) (u := 3) (p := j) sc3 (x := .int .i64 (g c i)) (y := .int .i64 ((c.set i (g c j))[j]'(by simpa using hj))) rfl hr1 (by rw [List.getElem?_map, List.getElem?_eq_getElem (by simpa using hj)]; rfl)
  have e2 : ((c.set i (g c j)).map (AV.int .i64)).set j (.int .i64 (g c i)) = (sw c i j).map (.int .i64) := by rw [← List.map_set]; rfl
  rw [e2] at h2
  exact ⟨_, _, h1, h2, ⟨_, get_set hr1⟩, ((KeepX.refl r H).set _).set _⟩
end Go.Proofs.Ytmlhekfkniibmaa

/- Seats in a row, and how some go. -/
namespace Go.Proofs.Ytmlhekfkniibmaa
open Go Go.Proofs.Ytmlhekfkniibmaa.AX

/-- Seats: a part of a row, with or without room behind it. -/
def SV (b : Bool) (r off len ver : Nat) : AV := bif b then .clip r off len ver 1 else .slice (some r) off len ver 1 false
theorem und74 : Try.prog.underlying 74 = some (.slice 3) := by kernel_rfl
theorem und22 : Try.prog.underlying 22 = some (.slice 3) := by kernel_rfl
theorem inf3 : ∃ i, Try.prog.info? 3 = some i ∧ i.size = 1 := by
  have h := slz74
  unfold slSz at h
  rw [und74] at h
  simp only [Option.map_eq_some_iff] at h
  exact h
@[simp] theorem lenS (b : Bool) (r off len ver : Nat) : aLen Try.prog 74 (SV b r off len ver) = some (.int .i64 len) := by
  cases b
  · exact len74 ..
  · unfold aLen SV; rw [und74]; rfl
@[simp] theorem ixaS (b : Bool) (r off len ver : Nat) (k : IntKind) (i : Int) : aIndexAddr Try.prog 74 (SV b r off len ver) (.int k i) = if 0 ≤ i ∧ i < len then some (.ptr r (off + i.toNat) ver) else none := by
  cases b
  · have := ixa74 r off len ver false k i
    rw [Nat.mul_one] at this
    exact this
  · obtain ⟨ie, h1, h2⟩ := inf3
    unfold aIndexAddr SV
    rw [und74]
    simp [h1, h2]
theorem sliceS {b : Bool} {r off len ver lo hi : Nat} (h1 : lo ≤ hi) (h2 : hi ≤ len) : aSlice Try.prog 74 (SV b r off len ver) (some (.int .i64 (lo : Int))) (some (.int .i64 (hi : Int))) (some (.int .i64 (hi : Int))) = some (SV true r (off + lo) (hi - lo) ver) := by
  obtain ⟨ie, g1, g2⟩ := inf3
  have h3 : (lo : Int) ≤ (hi : Int) := by omega
  have h4 : (hi : Int) ≤ (len : Int) := by omega
  cases b <;> simp [aSlice, SV, g1, g2, aBounds, aBound, h1, h2, clipOf]
theorem sliceS0 {b : Bool} {r off len ver hi : Nat} (h2 : hi ≤ len) : aSlice Try.prog 74 (SV b r off len ver) none (some (.int .i64 (hi : Int))) (some (.int .i64 (hi : Int))) = some (SV true r off hi ver) := by
  obtain ⟨ie, g1, g2⟩ := inf3
  cases b <;> simp [aSlice, SV, g1, g2, aBounds, aBound, h2, clipOf]
theorem sliceS1 {b : Bool} {r off len ver : Nat} (h2 : 1 ≤ len) : aSlice Try.prog 74 (SV b r off len ver) (some (.int .i64 1)) (some (.int .i64 (len : Int))) (some (.int .i64 (len : Int))) = some (SV true r (off + 1) (len - 1) ver) := by
  obtain ⟨ie, g1, g2⟩ := inf3
  have h3 : (1 : Int) ≤ (len : Int) := by omega
  cases b <;> simp [aSlice, SV, g1, g2, aBounds, aBound, clipOf, h3]

set_option maxRecDepth 100000 in
/-- slices.Reverse turns a part of a row round. -/
theorem Reverse_ac (b : Bool) (r off n ver : Nat) (c : List Int) (H : AH) (Q : AV → AH → Prop) (hr : Rw r ver H c) (hl : c.length ≤ 1000000) (hc : off + n ≤ c.length)
    (h : ∀ (H' : AH) (d : List Int), d.length = c.length → (∀ x, x < c.length → g d x = if off ≤ x ∧ x < off + n then g c (2 * off + n - 1 - x) else g c x) → Rw r ver H' d → KeepX r H H' → Q (.tuple []) H') : AC Try.prog 78 [SV b r off n ver] H Q := by
  refine L_body 28 Try.func78 rfl rfl ?_
  have hw : IntKind.i64.wrap ((n : Int) - 1) = (n : Int) - 1 := wrap_i64 (by omega)
  refine L_reg [0, 2, 3] (fun K hK => ?_)
  simp [hw]
  apply hK; clear hK K
  refine L_block (L_loopV [2, 3] (fun k vs H' => ∃ (i : Nat) (d : List Int), k = n - i ∧ 2 * i ≤ n + 1 ∧ i ≤ n ∧ d.length = c.length ∧ (∀ x, x < c.length → g d x = if off ≤ x ∧ x < off + n ∧ (x < off + i ∨ off + n ≤ x + i) then g c (2 * off + n - 1 - x) else g c x) ∧ vs = [.int .i64 i, .int .i64 ((n : Int) - 1 - i)] ∧ Rw r ver H' d ∧ KeepX r H H') _ [.int .i64 0, .int .i64 ((n : Int) - 1)] rfl ⟨0, c, rfl, by omega, by omega, rfl, fun x hx => by rw [if_neg (by omega)], by simp, hr, .refl r H⟩ ?_)
  rintro k _ H1 ⟨i, d, rfl, hi, hin, hdl, hd, rfl, hrow, hK⟩
  refine L_reg [0, 2, 3, 9] (fun K hK => ?_)
  simp
  apply hK; clear hK K
  refine L_dec ((i : Int) < (n : Int) - 1 - i) (by simp) (fun hlt => ?_) (fun hge => L_exit ?_)
  · obtain ⟨j, hj⟩ : ∃ j : Nat, n = i + 1 + j := ⟨n - i - 1, by omega⟩
    have hji : (n : Int) - 1 - i = (j : Int) := by omega
    have hx := hrow.ld (i := off + i) (by omega)
    have hy := hrow.ld (i := off + j) (by omega)
    obtain ⟨H2, H3, e1, e2, e3, e4⟩ := hrow.swap (i := off + i) (j := off + j) (by omega) (by omega)
    have g1 : i < n := by omega
    have g2 : j < n := by omega
    refine L_block ?_
    rw [hji]
    refine L_regT mixed [0, 2, 3] (by kernel_rfl) (fun K hK => ?_)
    simp [g1, g2, hx, hy, e1, e2]
    apply hK; clear hK K
    refine L_reg [0, 2, 3] (fun K hK => ?_)
    simp [wrap_i64 (a := (i : Int) + 1) (by omega), wrap_i64 (a := (j : Int) - 1) (by omega)]
    apply hK; clear hK K
    refine ⟨n - (i + 1), [.int .i64 (i + 1 : Nat), .int .i64 ((n : Int) - 1 - (i + 1 : Nat))], by omega, by simp; omega, i + 1, _, rfl, by omega, by omega, by rw [sw_len]; exact hdl, fun x hx => ?_, rfl, e3, hK.trans e4⟩
    rw [g_sw (by omega) (by omega)]
    have d1 := hd (off + i) (by omega)
    have d2 := hd (off + j) (by omega)
    have d3 := hd x hx
    rw [if_neg (by omega)] at d1 d2
    by_cases x1 : x = off + j
    · subst x1
      rw [if_pos rfl, d1, if_pos (by omega)]
      congr 1; omega
    · rw [if_neg x1]
      by_cases x2 : x = off + i
      · subst x2
        rw [if_pos rfl, d2, if_pos (by omega)]
        congr 1; omega
      · rw [if_neg x2, d3]
        by_cases x3 : off ≤ x ∧ x < off + n ∧ (x < off + i ∨ off + n ≤ x + i)
        · rw [if_pos x3, if_pos (by omega)]
        · rw [if_neg x3, if_neg (by omega)]
  · refine ⟨.inl rfl, _, rfl, h _ d hdl (fun x hx => ?_) hrow hK⟩
    rw [hd x hx]
    by_cases x1 : off ≤ x ∧ x < off + n ∧ (x < off + i ∨ off + n ≤ x + i)
    · rw [if_pos x1, if_pos (by omega)]
    · rw [if_neg x1]
      by_cases x2 : off ≤ x ∧ x < off + n
      · rw [if_pos x2]; congr 1; omega
      · rw [if_neg x2]

/-- Who sits after the one at a place went, from the next one on, behind those who went. -/
def rot (l : List Int) (a : Nat) : List Int := l.drop (a + 1) ++ l.take a
theorem rot_len {l : List Int} {a : Nat} (h : a < l.length) : (rot l a).length = l.length - 1 := by simp [rot]; omega
theorem g_app (a b : List Int) (i : Nat) : g (a ++ b) i = if i < a.length then g a i else g b (i - a.length) := by
  unfold g
  simp only [List.getD_eq_getElem?_getD]
  split
  · rename_i h; rw [List.getElem?_append_left h]
  · rename_i h; rw [List.getElem?_append_right (by omega)]
theorem g_drop (l : List Int) (a i : Nat) : g (l.drop a) i = g l (a + i) := by simp [g, List.getD_eq_getElem?_getD]
theorem g_take {l : List Int} {a i : Nat} (h : i < a) : g (l.take a) i = g l i := by simp [g, List.getD_eq_getElem?_getD, List.getElem?_take_of_lt h]
theorem g_ext {a b : List Int} (h1 : a.length = b.length) (h2 : ∀ i, i < a.length → g a i = g b i) : a = b := by
  apply List.ext_getElem h1
  intro i ha hb
  have := h2 i ha
  rwa [g_lt ha, g_lt hb] at this
set_option maxRecDepth 100000 in
theorem leave_ac (b : Bool) (r ver a off n : Nat) (p l : List Int) (H : AH) (Q : AV → AH → Prop) (hr : Rw r ver H (p ++ l)) (hp : p.length = off) (hn : l.length = n) (ha : a < n) (hl : off + n ≤ 1000000)
    (h : ∀ (H' : AH), Rw r ver H' (p ++ [g l a] ++ rot l a) → KeepX r H H' → Q (SV true r (off + 1) (n - 1) ver) H') : AC Try.prog 71 [SV b r off n ver, .int .i64 a] H Q := by
  refine L_body 30 Try.func71 rfl rfl ?_
  refine L_reg [0, 1] (fun K hK => ?_)
  simp
  apply hK; clear hK K
  refine L_regT mixed [0, 5, 6] (by kernel_rfl) (fun K hK => ?_)
  simp [sliceS0 (Nat.le_of_lt ha), sliceS (lo := a) (hi := n) (Nat.le_of_lt ha) (Nat.le_refl n)]
  apply hK; clear hK K
  have hcl : (p ++ l).length = off + n := by simp; omega
  generalize hc : p ++ l = c at *
  refine L_reg [0, 6] (fun K hK => ?_)
  simp [okFn_low]
  refine Reverse_ac true r off a ver c _ _ hr (by omega) (by omega) (fun H1 d1 l1 e1 r1 k1 => ?_)
  simp
  apply hK; clear hK K
  refine L_reg [0] (fun K hK => ?_)
  simp [okFn_low]
  refine Reverse_ac true r (off + a) (n - a) ver d1 _ _ r1 (by omega) (by omega) (fun H2 d2 l2 e2 r2 k2 => ?_)
  simp
  apply hK; clear hK K
  refine L_reg [0] (fun K hK => ?_)
  simp [okFn_low]
  refine Reverse_ac b r off n ver d2 _ _ r2 (by omega) (by omega) (fun H3 d3 l3 e3 r3 k3 => ?_)
  simp
  apply hK; clear hK K
  refine L_reg [4] (fun K hK => ?_)
  simp [sliceS1 (show 1 ≤ n by omega)]
  apply hK; clear hK K
  have e : d3 = p ++ [g l a] ++ rot l a := by
    apply g_ext (by simp [rot]; omega)
    intro x hx
    rw [e3 x (by omega), List.append_assoc, g_app]
    by_cases x1 : off ≤ x
    · rw [if_pos ⟨x1, by omega⟩, if_neg (by omega), hp, e2 _ (by omega), g_app]
      have hgl : ∀ y, off ≤ y → g c y = g l (y - off) := fun y hy => by rw [← hc, g_app, if_neg (by omega), hp]
      by_cases x2 : x < off + n - a
      · rw [if_pos (by omega), e1 _ (by omega), if_neg (by omega), hgl _ (by omega)]
        by_cases x3 : x = off
        · subst x3
          rw [if_pos (by simp)]
          have : x - x = 0 := by omega
          rw [this]
          show _ = g l a
          congr 1; omega
        · rw [if_neg (by simp; omega)]
          simp only [List.length_singleton]
          unfold rot
          rw [g_app, if_pos (by simp; omega), g_drop]
          congr 1; omega
      · rw [if_neg (by omega), e1 _ (by omega), if_pos (by omega), hgl _ (by omega), if_neg (by simp; omega)]
        simp only [List.length_singleton]
        unfold rot
        rw [g_app, if_neg (by simp; omega), g_take (by simp; omega)]
        simp only [List.length_drop]
        congr 1; omega
    · rw [if_neg (by omega), if_pos (by omega), e2 _ (by omega), if_neg (by omega), e1 _ (by omega), if_neg (by omega), ← hc, g_app, if_pos (by omega)]
  subst e
  exact L_ret ⟨.inr rfl, _, rfl, h H3 r3 ((k1.trans k2).trans k3)⟩
end Go.Proofs.Ytmlhekfkniibmaa

/- A whole list is appended. -/
namespace Go.Proofs.Ytmlhekfkniibmaa
open Go Go.Proofs.Ytmlhekfkniibmaa.AX
theorem ldn_ints {H : AH} {r ver : Nat} : ∀ {m : List Int} {p : Nat}, (∀ i (h : i < m.length), ld H r (p + i) ver = some (.int .i64 m[i])) → ldn H r ver m.length p = some (m.map (.int .i64))
  | [], _, _ => rfl
  | x :: m, p, h => by
    have h0 := h 0 (by simp)
    simp only [Nat.add_zero, List.getElem_cons_zero] at h0
    have h1 : ldn H r ver m.length (p + 1) = some (m.map (.int .i64)) := ldn_ints fun i hi => by
      have := h (i + 1) (by simpa using hi)
      simp only [List.getElem_cons_succ] at this
      rw [← this]; congr 1; omega
    rw [List.length_cons, ldn_succ, h0, Option.bind_some, h1]
    rfl
theorem src_ls {P : Program} {H : AH} {u : TypeId} {x : AV} {m : List Int} (hu : elT P u = true) (hx : Ls H x m) : aSrc P H u 1 x = some (m.length, m.map (.int .i64)) := by
  obtain ⟨e', I', g1, -⟩ := elT_some hu
  obtain ⟨r, off, ver, sz, full, rfl, hld⟩ := hx
  unfold aSrc
  rw [g1]
  cases m with
  | nil => cases r <;> simp
  | cons y m =>
    obtain ⟨r', rfl, rfl, -⟩ := hld 0 (by simp)
    have h1 : ldn H r' ver (y :: m).length off = some ((y :: m).map (.int .i64)) := ldn_ints fun i hi => by
      obtain ⟨r2, h2, -, h3⟩ := hld i hi
      obtain rfl := Option.some.inj h2
      exact h3
    simp only [Nat.mul_one, h1]
    simp
theorem all_ints (m : List Int) : (m.map (AV.int .i64)).all AV.one = true := by
  rw [List.all_eq_true]
  intro x hx
  obtain ⟨i, -, rfl⟩ := List.mem_map.1 hx
  rfl
theorem row0 {P : Program} {H : AH} {t : TypeId} (ht : elT P t = true) : rowV P t 0 [] H = some (some (.slice (some H.length) 0 0 0 1 false), H ++ [.row [] 0 0 false]) := by
  obtain ⟨e, I, h1, h2, h3, h4, hzz⟩ := elT_some ht
  simp [rowV, h1, h2, h3, aFill]
@[simp] theorem row22_0 (H : AH) : rowV Try.prog 22 0 [] H = some (some (.slice (some H.length) 0 0 0 1 false), H ++ [.row [] 0 0 false]) := row0 el22
/-- append(l, x...) -/
theorem ownF_appendL {P : Program} {H H0 : AH} (hE : Ext H0 H) {t u : TypeId} (ht : elT P t = true) (hu : elT P u = true) {v x : AV} {l m : List Int} (ho : OwnF H0.length H v (l.map (.int .i64))) (hx : Ls H x m) (hlen : l.length + m.length ≤ 16777216) :
    ∃ v' H', aAppend P H t u v x = some (v', H') ∧ OwnF H0.length H' v' ((l ++ m).map (.int .i64)) ∧ Ext H0 H' := by
  obtain ⟨e, I, h1, h2, h3, h4, -⟩ := elT_some ht
  have hsrc := src_ls hu hx
  have hall := all_ints m
  have hle := hE.1
  unfold aAppend
  cases m with
  | nil =>
    simp only [List.length_nil, List.map_nil] at hsrc
    refine ⟨v, H, ?_, by simpa using ho, hE⟩
    rcases ho with ⟨-, rfl⟩ | ⟨r, ver, stale, hr0, rfl, hr⟩ <;> simp [h1, h2, h3, h4, hsrc]
  | cons y m =>
    have hml : ((y :: m).map (AV.int .i64)).length = (y :: m).length := by simp
    rw [List.map_append]
    generalize (y :: m).map (AV.int .i64) = vs at *
    have hne : (y :: m).length ≠ 0 := by simp
    generalize (y :: m).length = k at *
    rcases ho with ⟨h0, rfl⟩ | ⟨r, ver, stale, hr0, rfl, hr⟩
    · have : l = [] := by simpa using h0
      subst this
      have hk : k ≤ 16777216 := by simpa using hlen
      refine ⟨.slice (some H.length) 0 k 0 1 false, H ++ [.row vs 0 0 false], ?_, .inr ⟨H.length, 0, 0, by omega, by simp [hml], by simp⟩, hE.trans (.push _ _)⟩
      simp only [h1, h2, h3, h4, hsrc]
      simp [hml, hne, hk]
      exact fun x hx => List.all_eq_true.1 hall x hx
    · have hlt : r < H.length := (List.getElem?_eq_some_iff.1 hr).1
      have hll : (l.map (AV.int .i64)).length = l.length := by simp
      generalize hL : l.map (AV.int .i64) = L at *
      refine ⟨.slice (some r) 0 (l.length + k) (ver + 1) 1 false, H.set r (AObj.row (L ++ vs) (ver + 1) (min stale l.length) false), ?_, .inr ⟨r, ver + 1, min stale l.length, hr0, by simp [hll, hml], get_set hr⟩, hE.set _ hr0⟩
      have hin : inPlace H r 0 l.length k ver 1 vs = none := by simp [inPlace, hr, hll]; omega
      have hgr : grow H r 0 l.length ver vs = some (H.set r (AObj.row (L ++ vs) (ver + 1) (min stale l.length) false), ver + 1) := by
        simp [grow, hr, ← hll]
      simp only [h1, h2, h3, h4, hsrc, hll]
      simp only [Nat.zero_lt_one, true_and, if_true, Option.bind_some, hall, hml, Nat.mul_one, beq_self_eq_true, Bool.and_true, hne, if_false, hlen, Bool.false_eq_true, hin, hgr, Option.map_some]
theorem ownF_new (H : AH) : OwnF H.length (H ++ [.row [] 0 0 false]) (.slice (some H.length) 0 0 0 1 false) (([] : List Int).map (.int .i64)) := .inr ⟨H.length, 0, 0, Nat.le_refl _, rfl, by simp⟩
theorem KeepX.new {r : Nat} {H0 A B : AH} (h : KeepX r A B) (hE : Ext H0 A) (hr : H0.length ≤ r) : Ext H0 B := ⟨Nat.le_trans hE.1 h.1, fun j hj => by rw [h.2 j (by omega) (by have := hE.1; omega), hE.2 j hj]⟩
theorem Rw.put {r ver i : Nat} {H : AH} {c : List Int} (h : Rw r ver H c) (hi : i < c.length) (x : Int) :
    ∃ H1, storeV Try.prog 3 H (.ptr r i ver) (.int .i64 x) = some (none, H1) ∧ Rw r ver H1 (c.set i x) ∧ KeepX r H H1 := by
  obtain ⟨s, h⟩ := h
  have h1 := store_row (P := Try.prog) (u := 3) (p := i) sc3 (x := .int .i64 x) (y := .int .i64 c[i]) rfl h (by simp [hi])
  have e1 : (c.map (AV.int .i64)).set i (.int .i64 x) = (c.set i x).map (.int .i64) := by rw [List.map_set]
  rw [e1] at h1
  exact ⟨_, h1, ⟨_, get_set h⟩, (KeepX.refl r H).set _⟩
theorem g_set {c : List Int} {i : Nat} (hi : i < c.length) (x : Int) (k : Nat) : g (c.set i x) k = if k = i then x else g c k := by
  unfold g
  simp only [List.getD_eq_getElem?_getD, List.getElem?_set]
  by_cases h : i = k
  · subst h; simp [hi]
  · rw [if_neg h, if_neg (fun e => h e.symm)]
theorem Rw.ownF {N r ver : Nat} {H : AH} {c : List Int} (h : Rw r ver H c) (hr : N ≤ r) : OwnF N H (.slice (some r) 0 c.length ver 1 false) (c.map (.int .i64)) := by
  obtain ⟨s, h⟩ := h
  exact .inr ⟨r, ver, s, hr, by simp, h⟩
theorem Rw.ls {r ver : Nat} {H : AH} {c : List Int} (h : Rw r ver H c) : Ls H (.slice (some r) 0 c.length ver 1 false) c := by
  obtain ⟨s, h⟩ := h
  exact Ls.row h false
/-- The row of a slice. -/
def rowOf : AV → Option Nat
  | .slice r _ _ _ _ _ => r
  | _ => none
theorem ownF_ext {N : Nat} {H H1 : AH} {v : AV} {l : List AV} (h : OwnF N H v l) (hE : Ext H H1) : OwnF N H1 v l := by
  rcases h with h | ⟨r, ver, stale, h1, h2, h3⟩
  · exact .inl h
  · exact .inr ⟨r, ver, stale, h1, h2, hE.row h3⟩
end Go.Proofs.Ytmlhekfkniibmaa

/- The order in which rollers go, as the program finds it. -/
namespace Go.Proofs.Ytmlhekfkniibmaa
open Go Go.Proofs.Ytmlhekfkniibmaa.AX

def allS (n : Nat) : List Int := (List.range n).map Int.ofNat
theorem allS_len (n : Nat) : (allS n).length = n := by simp [allS]
theorem g_all {n i : Nat} (h : i < n) : g (allS n) i = i := by rw [g_lt (by simpa [allS] using h)]; simp [allS]
def ordS (k : Nat) : Nat → List Int → List Int
  | 0, _ => []
  | m + 1, l => g l ((k - 1) % (m + 1)) :: ordS k m (rot l ((k - 1) % (m + 1)))
theorem ordS_len (k : Nat) : ∀ (m : Nat) (l : List Int), (ordS k m l).length = m
  | 0, _ => rfl
  | m + 1, l => by simp [ordS, ordS_len k m]
def orderS (n k : Nat) : List Int := ordS k n (allS n)
theorem orderS_len (n k : Nat) : (orderS n k).length = n := ordS_len k n _

theorem full_ac (n : Nat) (hn : n ≤ 1000000) (H : AH) (Q : AV → AH → Prop) (h : ∀ H', Rw H.length 0 H' (allS n) → Ext H H' → Q (SV false H.length 0 n 0) H') : AC Try.prog 70 [.int .i64 n] H Q := by
  refine L_body 17 Try.func70 rfl rfl ?_
  refine L_reg [0] (fun K hK => ?_)
  simp
  apply hK; clear hK K
  refine L_reg [0, 3] (fun K hK => ?_)
  simp [make_z elz74 (show n ≤ 16777216 by omega)]
  apply hK; clear hK K
  have hE1 : Ext H (H ++ [AObj.row (List.replicate n (AV.int .i64 0)) 0 0 false]) := .push _ _
  have hw : Rw H.length 0 (H ++ [AObj.row (List.replicate n (AV.int .i64 0)) 0 0 false]) (List.replicate n 0) := ⟨0, by simp⟩
  generalize H ++ [AObj.row (List.replicate n (AV.int .i64 0)) 0 0 false] = H1 at hE1 hw ⊢
  rw [show AV.slice (some H.length) 0 n 0 1 false = SV false H.length 0 n 0 from rfl]
  refine L_reg [3, 7, 8] (fun K hK => ?_)
  simp
  apply hK; clear hK K
  refine L_block (L_loopV [8] (fun m vs H' => ∃ (i : Nat) (d : List Int), m = n - i ∧ i ≤ n ∧ d.length = n ∧ (∀ x : Nat, x < i → g d x = x) ∧ vs = [.int .i64 i] ∧ Rw H.length 0 H' d ∧ Ext H H') _ [.int .i64 0] rfl ⟨0, List.replicate n 0, rfl, by omega, by simp, fun x hx => by omega, rfl, hw, hE1⟩ ?_)
  rintro m _ H2 ⟨i, d, rfl, hi, hdl, hd, rfl, hrow, hE⟩
  refine L_reg [3, 7, 8, 9] (fun K hK => ?_)
  simp
  apply hK; clear hK K
  refine L_dec (i < n) (by simp) (fun hlt => ?_) (fun hge => L_exit ?_)
  · refine L_block ?_
    obtain ⟨H3, e1, e2, e3⟩ := hrow.put (i := i) (by omega) (i : Int)
    refine L_reg [3, 4, 7, 8] (fun K hK => ?_)
    simp
    apply hK; clear hK K
    refine L_reg [3, 7, 8] (fun K hK => ?_)
    simp [hlt, e1]
    apply hK; clear hK K
    refine L_reg [3, 7, 8] (fun K hK => ?_)
    simp [wrap_i64 (a := (i : Int) + 1) (by omega)]
    apply hK; clear hK K
    refine ⟨n - (i + 1), [.int .i64 (i + 1 : Nat)], by omega, by simp, i + 1, _, rfl, by omega, by simpa using hdl, fun x hx => ?_, rfl, e2, e3.new hE (Nat.le_refl _)⟩
    rw [g_set (by omega)]
    split
    · rename_i e; rw [e]
    · exact hd x (by omega)
  · have hi' : i = n := by omega
    subst hi'
    have e : d = allS i := g_ext (by simp [allS, hdl]) fun x hx => by rw [hd x (by omega), g_all (by omega)]
    subst e
    refine L_reg [2] (fun K hK => ?_)
    simp
    apply hK; clear hK K
    exact L_ret ⟨.inr rfl, _, rfl, h _ hrow hE⟩
theorem reached_ac (b : Bool) (r off n ver k : Nat) (hn : 1 ≤ n) (hk : 1 ≤ k) (hk2 : k ≤ 1000000000000) (H : AH) (Q : AV → AH → Prop) (h : Q (.int .i64 ((k - 1) % n : Nat)) H) : AC Try.prog 72 [SV b r off n ver, .int .i64 k] H Q := by
  refine L_body 10 Try.func72 rfl rfl ?_
  refine L_reg [0, 1] (fun K hK => ?_)
  simp
  apply hK; clear hK K
  have hne : n ≠ 0 := by omega
  have e2 : ((k : Int) - 1).tmod n = (((k - 1) % n : Nat) : Int) := by
    rw [show (k : Int) - 1 = ((k - 1 : Nat) : Int) by omega, Int.tmod_eq_emod_of_nonneg (by omega)]; rfl
  refine L_reg [4] (fun K hK => ?_)
  simp [wrap_i64 (a := (k : Int) - 1) (by omega), hne, e2]
  apply hK; clear hK K
  exact L_ret ⟨.inr rfl, _, rfl, h⟩
set_option maxRecDepth 100000 in
theorem order_ac (n k : Nat) (h1 : n ≤ 1000) (h3 : 1 ≤ k) (h4 : k ≤ 1000000000000) (H : AH) (Q : AV → AH → Prop) (h : ∀ v H', OwnF H.length H' v ((orderS n k).map (.int .i64)) → Ext H H' → Q v H') : AC Try.prog 45 [.int .i64 n, .int .i64 k] H Q := by
  refine L_body 20 Try.func45 rfl rfl ?_
  refine L_reg [0, 1] (fun K hK => ?_)
  simp
  apply hK; clear hK K
  refine L_reg [0, 1, 5] (fun K hK => ?_)
  simp [okFn_low]
  refine full_ac n (by omega) _ _ (fun H1 r1 E1 => ?_)
  simp
  apply hK; clear hK K
  refine L_reg [0, 1, 5, 6] (fun K hK => ?_)
  simp
  apply hK; clear hK K
  refine L_reg [1, 5, 6, 10, 11] (fun K hK => ?_)
  simp
  apply hK; clear hK K
  refine L_block (L_loopV [6, 11] (fun m vs H' => ∃ (i : Nat) (b : Bool) (done sit : List Int), m = n - i ∧ i ≤ n ∧ done.length = i ∧ sit.length = n - i ∧ done ++ ordS k (n - i) sit = orderS n k ∧ vs = [SV b H.length i (n - i) 0, .int .i64 i] ∧ Rw H.length 0 H' (done ++ sit) ∧ Ext H H') _ [SV false H.length 0 n 0, .int .i64 0] rfl ⟨0, false, [], allS n, rfl, by omega, rfl, by simp [allS], rfl, rfl, r1, E1⟩ ?_)
  rintro m _ H2 ⟨i, b, done, sit, rfl, hi, hdl, hsl, hord, rfl, hrow, hE⟩
  refine L_reg [1, 5, 6, 10, 11, 12] (fun K hK => ?_)
  simp
  apply hK; clear hK K
  refine L_dec (i < n) (by simp) (fun hlt => ?_) (fun hge => L_exit ?_)
  · refine L_block ?_
    obtain ⟨j, hj⟩ : ∃ j, n - i = j + 1 := ⟨n - i - 1, by omega⟩
    have hlt2 : (k - 1) % (j + 1) < j + 1 := Nat.mod_lt _ (by omega)
    rw [hj] at hord hsl ⊢
    unfold ordS at hord
    refine L_reg [1, 5, 6, 10, 11] (fun K hK => ?_)
    simp [okFn_low]
    refine reached_ac b _ i (j + 1) 0 k (by omega) h3 h4 _ _ ?_
    simp [okFn_low]
    refine leave_ac b H.length 0 ((k - 1) % (j + 1)) i (j + 1) done sit _ _ hrow hdl hsl hlt2 (by omega) (fun H3 r3 k3 => ?_)
    simp
    apply hK; clear hK K
    refine L_reg [1, 5, 6, 10, 11] (fun K hK => ?_)
    simp [wrap_i64 (a := (i : Int) + 1) (by omega)]
    apply hK; clear hK K
    refine ⟨n - (i + 1), [SV true H.length (i + 1) j 0, .int .i64 (i + 1 : Nat)], by omega, by simp, i + 1, true, done ++ [g sit ((k - 1) % (j + 1))], rot sit ((k - 1) % (j + 1)), rfl, by omega, by simp [hdl], by rw [rot_len (by omega)]; omega, ?_, ?_, r3, k3.new hE (Nat.le_refl _)⟩
    · rw [show n - (i + 1) = j by omega, List.append_assoc]; exact hord
    · rw [show n - (i + 1) = j by omega]
  · have hi' : i = n := by omega
    subst hi'
    have hs : sit = [] := by
      apply List.eq_nil_of_length_eq_zero; omega
    subst hs
    rw [Nat.sub_self] at hord
    unfold ordS at hord
    rw [hord] at hrow
    refine L_reg [4] (fun K hK => ?_)
    simp
    apply hK; clear hK K
    have := hrow.ownF (N := H.length) (Nat.le_refl _)
    rw [orderS_len] at this
    exact L_ret ⟨.inr rfl, _, rfl, h _ H2 this hE⟩
end Go.Proofs.Ytmlhekfkniibmaa

/- The order in which rollers go, as the reference finds it; small functions of both. -/
namespace Go.Proofs.Ytmlhekfkniibmaa
open Go Go.Proofs.Ytmlhekfkniibmaa.AX

theorem isBench_ac (n : Int) (H : AH) (Q : AV → AH → Prop) (h : Q (.bool (decide (1 ≤ n ∧ n ≤ 20))) H) : AC Try.prog 56 [.int .i64 n] H Q := by
  refine L_body 9 Try.func56 rfl rfl ?_
  refine L_reg [0] (fun K hK => ?_)
  simp
  apply hK; clear hK K
  by_cases h1 : 1 ≤ n
  · by_cases h2 : n ≤ 20
    · refine L_reg [2] (fun K hK => ?_)
      simp [h1, h2, pickV]
      apply hK; clear hK K
      exact L_ret ⟨.inr rfl, _, rfl, by simpa [h1, h2] using h⟩
    · refine L_reg [2] (fun K hK => ?_)
      simp [h1, h2, pickV]
      apply hK; clear hK K
      exact L_ret ⟨.inr rfl, _, rfl, by simpa [h1, h2] using h⟩
  · refine L_reg [2] (fun K hK => ?_)
    simp [h1, pickV]
    apply hK; clear hK K
    exact L_ret ⟨.inr rfl, _, rfl, by simpa [h1] using h⟩
theorem isRoller_ac (n x : Int) (H : AH) (Q : AV → AH → Prop) (h : Q (.bool (decide (0 ≤ x ∧ x < n))) H) : AC Try.prog 62 [.int .i64 n, .int .i64 x] H Q := by
  refine L_body 12 Try.func62 rfl rfl ?_
  refine L_reg [0, 1] (fun K hK => ?_)
  simp
  apply hK; clear hK K
  by_cases h1 : 0 ≤ x
  · by_cases h2 : x < n
    · refine L_reg [4] (fun K hK => ?_)
      simp [h1, h2, pickV]
      apply hK; clear hK K
      exact L_ret ⟨.inr rfl, _, rfl, by simpa [h1, h2] using h⟩
    · refine L_reg [4] (fun K hK => ?_)
      simp [h1, h2, pickV]
      apply hK; clear hK K
      exact L_ret ⟨.inr rfl, _, rfl, by simpa [h1, h2] using h⟩
  · refine L_reg [4] (fun K hK => ?_)
    simp [h1, pickV]
    apply hK; clear hK K
    exact L_ret ⟨.inr rfl, _, rfl, by simpa [h1] using h⟩
/-- Whether rollers and a count are in range. -/
def okB (n k : Int) : Prop := (1 ≤ n ∧ n ≤ 20) ∧ 1 ≤ k ∧ k ≤ 1000000000
instance (n k : Int) : Decidable (okB n k) := by unfold okB; infer_instance
def benchE (n k : Int) : Int := if okB n k then 0 else 1
def oneE (n k x : Int) : Int := if okB n k then (if 0 ≤ x ∧ x < n then 0 else 2) else 1
theorem check_ac (n k : Int) (H : AH) (Q : AV → AH → Prop) (h : Q (.int .i64 (benchE n k)) H) : AC Try.prog 44 [.int .i64 n, .int .i64 k] H Q := by
  refine L_body 16 Try.func44 rfl rfl ?_
  refine L_reg [0, 1] (fun K hK => ?_)
  simp
  apply hK; clear hK K
  unfold benchE at h
  by_cases h1 : 1 ≤ n ∧ n ≤ 20
  · by_cases h2 : 1 ≤ k
    · by_cases h3 : k ≤ 1000000000
      · rw [if_pos ⟨h1, h2, h3⟩] at h
        have g2 : ¬ k < 1 := by omega
        have g3 : ¬ k > 1000000000 := by omega
        refine L_reg [15] (fun K hK => ?_)
        simp [okFn_low]
        refine isBench_ac _ _ _ ?_
        simp [h1, g2, g3, pickV]
        apply hK; clear hK K
        refine L_false (by simp) ?_
        refine L_reg [4] (fun K hK => ?_)
        simp
        apply hK; clear hK K
        exact L_ret ⟨.inr rfl, _, rfl, h⟩
      · rw [if_neg (fun e => h3 e.2.2)] at h
        have g2 : ¬ k < 1 := by omega
        have g3 : k > 1000000000 := by omega
        refine L_reg [15] (fun K hK => ?_)
        simp [okFn_low]
        refine isBench_ac _ _ _ ?_
        simp [h1, g2, g3, pickV]
        apply hK; clear hK K
        refine L_true (by simp) ?_
        refine L_reg [4] (fun K hK => ?_)
        simp
        apply hK; clear hK K
        exact L_ret ⟨.inr rfl, _, rfl, h⟩
    · rw [if_neg (fun e => h2 e.2.1)] at h
      have g2 : k < 1 := by omega
      refine L_reg [15] (fun K hK => ?_)
      simp [okFn_low]
      refine isBench_ac _ _ _ ?_
      simp [h1, g2, pickV]
      apply hK; clear hK K
      refine L_true (by simp) ?_
      refine L_reg [4] (fun K hK => ?_)
      simp
      apply hK; clear hK K
      exact L_ret ⟨.inr rfl, _, rfl, h⟩
  · rw [if_neg (fun e => h1 e.1)] at h
    refine L_reg [15] (fun K hK => ?_)
    simp [okFn_low]
    refine isBench_ac _ _ _ ?_
    simp [decide_eq_false h1, pickV]
    apply hK; clear hK K
    refine L_true (by simp) ?_
    refine L_reg [4] (fun K hK => ?_)
    simp
    apply hK; clear hK K
    exact L_ret ⟨.inr rfl, _, rfl, h⟩
end Go.Proofs.Ytmlhekfkniibmaa

/- Order, Last, When and Who, of both. -/
namespace Go.Proofs.Ytmlhekfkniibmaa
open Go Go.Proofs.Ytmlhekfkniibmaa.AX

theorem okB_nat {n k : Int} (h : okB n k) : ∃ a b : Nat, n = a ∧ k = b ∧ 1 ≤ a ∧ a ≤ 20 ∧ 1 ≤ b ∧ b ≤ 1000000000 := by
  obtain ⟨⟨h1, h2⟩, h3, h4⟩ := h
  exact ⟨n.toNat, k.toNat, by omega, by omega, by omega, by omega, by omega, by omega⟩
theorem benchE_ok {n k : Int} (h : okB n k) : benchE n k = 0 := by unfold benchE; rw [if_pos h]
theorem benchE_no {n k : Int} (h : ¬ okB n k) : benchE n k = 1 := by unfold benchE; rw [if_neg h]
def orderP (n k : Int) : List Int := if okB n k then orderS n.toNat k.toNat else []
theorem Order_ac (n k : Int) (H : AH) (Q : AV → AH → Prop) (h : ∀ v H', OwnF H.length H' v ((orderP n k).map (.int .i64)) → Ext H H' → Q (.tuple [v, .int .i64 (benchE n k)]) H') : AC Try.prog 13 [.int .i64 n, .int .i64 k] H Q := by
  refine L_body 16 Try.func13 rfl rfl ?_
  refine L_reg [0, 1] (fun K hK => ?_)
  simp
  apply hK; clear hK K
  refine L_reg [0, 1, 6] (fun K hK => ?_)
  simp [okFn_low]
  refine check_ac n k _ _ ?_
  simp
  apply hK; clear hK K
  refine L_reg [0, 1, 6, 11] (fun K hK => ?_)
  simp
  apply hK; clear hK K
  unfold orderP at h
  by_cases h0 : okB n k
  · have e0 := benchE_ok h0
    refine L_false (by simp [e0]) ?_
    rw [if_pos h0, e0] at h
    obtain ⟨n, k, rfl, rfl, a1, a2, a3, a4⟩ := okB_nat h0
    simp only [Int.toNat_natCast] at h
    refine L_reg [4, 5] (fun K hK => ?_)
    simp [okFn_low]
    refine order_ac n k (by omega) (by omega) (by omega) _ _ (fun v H1 o1 E1 => ?_)
    simp
    apply hK; clear hK K
    exact L_ret ⟨.inr rfl, _, rfl, h v H1 o1 E1⟩
  · have e0 := benchE_no h0
    rw [if_neg h0] at h
    refine L_true (by simp [e0]) ?_
    refine L_reg [4, 5] (fun K hK => ?_)
    simp
    apply hK; clear hK K
    exact L_ret ⟨.inr rfl, _, rfl, h _ _ (.nil _ _) (.refl _)⟩
def lastP (n k : Int) : Int := if okB n k then g (orderS n.toNat k.toNat) (n.toNat - 1) else 0
/-- The first place of a number in a list, or -1. -/
def idx (x : Int) : List Int → Int
  | [] => -1
  | y :: l => if x = y then 0 else (if idx x l = -1 then -1 else idx x l + 1)
theorem idx_ge (x : Int) : ∀ l, -1 ≤ idx x l
  | [] => by simp [idx]
  | y :: l => by
    have := idx_ge x l
    simp only [idx]
    split
    · omega
    · split <;> omega
theorem idx_drop {x : Int} {l : List Int} {i : Nat} (hi : i < l.length) (hne : g l i ≠ x) : idx x (l.drop i) = if idx x (l.drop (i + 1)) = -1 then -1 else idx x (l.drop (i + 1)) + 1 := by
  rw [List.drop_eq_getElem_cons hi, ← g_lt hi]
  simp only [idx]
  rw [if_neg (fun e => hne e.symm)]
theorem idx_here {x : Int} {l : List Int} {i : Nat} (hi : i < l.length) (h : g l i = x) : idx x (l.drop i) = 0 := by
  rw [List.drop_eq_getElem_cons hi, ← g_lt hi]
  simp only [idx]
  rw [if_pos h.symm]
/-- The same, from a place on. -/
def off (i : Nat) (y : Int) : Int := if y = -1 then -1 else i + y
theorem off_step {x : Int} {l : List Int} {i : Nat} (hi : i < l.length) (hne : g l i ≠ x) : off i (idx x (l.drop i)) = off (i + 1) (idx x (l.drop (i + 1))) := by
  rw [idx_drop hi hne]
  have := idx_ge x (l.drop (i + 1))
  unfold off
  generalize idx x (l.drop (i + 1)) = y at *
  by_cases h : y = -1
  · simp [h]
  · rw [if_neg h, if_neg h, if_neg (by omega)]; omega
theorem Index_ac (v : AV) (l : List Int) (x : Int) (H : AH) (Q : AV → AH → Prop) (hlen : l.length ≤ 1000000) (hv : Ls H v l) (h : Q (.int .i64 (idx x l)) H) : AC Try.prog 50 [v, .int .i64 x] H Q := by
  obtain ⟨r, of, ver, sz, full, rfl, hld⟩ := hv
  refine L_body 19 Try.func50 rfl rfl ?_
  refine L_reg [0, 1] (fun K hK => ?_)
  simp
  apply hK; clear hK K
  refine L_reg [0, 1, 7, 8] (fun K hK => ?_)
  simp
  apply hK; clear hK K
  refine L_block (L_loopV [8] (fun n vs H' => ∃ i : Nat, n = l.length - i ∧ i ≤ l.length ∧ off i (idx x (l.drop i)) = idx x l ∧ vs = [.int .i64 i] ∧ H = H') _ [.int .i64 0] rfl ⟨0, rfl, by omega, by unfold off; rw [List.drop_zero]; split <;> omega, rfl, rfl⟩ ?_)
  rintro n _ _ ⟨i, rfl, hi, hno, rfl, rfl⟩
  refine L_reg [0, 1, 7, 8, 9] (fun K hK => ?_)
  simp
  apply hK; clear hK K
  refine L_dec (i < l.length) (by simp) (fun hlt => ?_) (fun hge => L_exit ?_)
  · refine L_block ?_
    obtain ⟨r', rfl, rfl, hrd⟩ := hld i hlt
    rw [← g_lt hlt] at hrd
    refine L_reg [0, 1, 5, 7, 8] (fun K hK => ?_)
    simp
    apply hK; clear hK K
    refine L_reg [0, 1, 5, 7, 8, 16] (fun K hK => ?_)
    simp [hrd, hlt]
    apply hK; clear hK K
    by_cases e : x = g l i
    · refine L_true (by simp [← e]) ?_
      rw [idx_here hlt e.symm] at hno
      have e3 : off i 0 = i := by unfold off; rw [if_neg (by omega)]; omega
      rw [e3] at hno
      rw [← hno] at h
      refine L_reg [4] (fun K hK => ?_)
      simp
      apply hK; clear hK K
      exact L_ret ⟨.inr rfl, _, rfl, h⟩
    · refine L_false (by simp [e]) ?_
      rw [off_step hlt (fun h => e h.symm)] at hno
      refine L_reg [0, 1, 7, 8] (fun K hK => ?_)
      simp [wrap_i64 (a := (i : Int) + 1) (by omega)]
      apply hK; clear hK K
      exact ⟨l.length - (i + 1), [.int .i64 (i + 1 : Nat)], by omega, by simp, i + 1, rfl, by omega, hno, rfl, rfl⟩
  · have hi' : i = l.length := by omega
    subst hi'
    rw [List.drop_length] at hno
    rw [← hno] at h
    refine L_reg [4] (fun K hK => ?_)
    simp
    apply hK; clear hK K
    exact L_ret ⟨.inr rfl, _, rfl, h⟩
def okO (n k x : Int) : Prop := okB n k ∧ 0 ≤ x ∧ x < n
instance (n k x : Int) : Decidable (okO n k x) := by unfold okO; infer_instance
def whenP (n k x : Int) : Int := if okO n k x then idx x (orderS n.toNat k.toNat) else 0
def whoP (n k x : Int) : Int := if okO n k x then g (orderS n.toNat k.toNat) x.toNat else 0
end Go.Proofs.Ytmlhekfkniibmaa

/- How often a roller is counted; how many orders are possible. -/
namespace Go.Proofs.Ytmlhekfkniibmaa
open Go Go.Proofs.Ytmlhekfkniibmaa.AX

theorem rot_perm {l : List Int} {a : Nat} (h : a < l.length) : (g l a :: rot l a).Perm l := by
  have e : l = l.take a ++ (g l a :: l.drop (a + 1)) := by
    rw [g_lt h, ← List.drop_eq_getElem_cons h, List.take_append_drop]
  have h1 : (g l a :: rot l a).Perm (g l a :: (l.take a ++ l.drop (a + 1))) := List.Perm.cons _ List.perm_append_comm
  have h2 : (l.take a ++ (g l a :: l.drop (a + 1))).Perm (g l a :: (l.take a ++ l.drop (a + 1))) := List.perm_middle
  have h3 := h1.trans h2.symm
  rw [← e] at h3
  exact h3
theorem rot_nodup {l : List Int} {a : Nat} (h : a < l.length) (hd : l.Nodup) : g l a ∉ rot l a ∧ (rot l a).Nodup := by
  have := (rot_perm h).nodup_iff.2 hd
  rw [List.nodup_cons] at this
  exact this
theorem rot_mem {l : List Int} {a : Nat} (h : a < l.length) {x : Int} : x ∈ l ↔ x = g l a ∨ x ∈ rot l a := by
  rw [← (rot_perm h).mem_iff, List.mem_cons]
theorem idx_mem {x : Int} : ∀ {l : List Int}, x ∈ l → 0 ≤ idx x l
  | y :: l, h => by
    simp only [idx]
    split
    · omega
    · rename_i hne
      have : x ∈ l := by
        rcases List.mem_cons.1 h with e | e
        · exact absurd e hne
        · exact e
      have := idx_mem this
      split <;> omega
theorem idx_get {x : Int} : ∀ {l : List Int} {p : Nat}, idx x l = p → p < l.length ∧ g l p = x
  | [], p, h => by simp only [idx] at h; omega
  | y :: l, p, h => by
    simp only [idx] at h
    split at h
    · rename_i e
      have : p = 0 := by omega
      subst this
      exact ⟨by simp, by simp [g, e]⟩
    · split at h
      · omega
      · have h0 := idx_ge x l
        obtain ⟨q, hq⟩ : ∃ q : Nat, idx x l = q := ⟨(idx x l).toNat, by omega⟩
        obtain ⟨h1, h2⟩ := idx_get hq
        have : p = q + 1 := by omega
        subst this
        exact ⟨by simp; omega, by simpa [g] using h2⟩
theorem allS_nodup (n : Nat) : (allS n).Nodup := List.Pairwise.map Int.ofNat (fun _ _ h e => h (Int.ofNat.inj e)) List.nodup_range
theorem mem_allS {n : Nat} {x : Int} : x ∈ allS n ↔ 0 ≤ x ∧ x < n := by
  simp only [allS, List.mem_map, List.mem_range]
  constructor
  · rintro ⟨i, hi, rfl⟩
    have : Int.ofNat i = (i : Int) := rfl
    omega
  · rintro ⟨h1, h2⟩; exact ⟨x.toNat, by omega, by have : Int.ofNat x.toNat = (x.toNat : Int) := rfl; omega⟩
def cntS (k : Nat) (x : Int) : Nat → List Int → Nat
  | 0, _ => 0
  | m + 1, l => if idx x l = -1 then 0 else (k + m - (idx x l).toNat) / (m + 1) + cntS k x m (rot l ((k - 1) % (m + 1)))
theorem IndexS_ac (b : Bool) (r ver off n : Nat) (x : Int) (p l : List Int) (H : AH) (Q : AV → AH → Prop) (hr : Rw r ver H (p ++ l)) (hp : p.length = off) (hn : l.length = n) (hlen : n ≤ 1000000) (h : Q (.int .i64 (idx x l)) H) : AC Try.prog 73 [SV b r off n ver, .int .i64 x] H Q := by
  refine L_body 19 Try.func73 rfl rfl ?_
  refine L_reg [0, 1] (fun K hK => ?_)
  simp
  apply hK; clear hK K
  refine L_reg [0, 1, 7, 8] (fun K hK => ?_)
  simp
  apply hK; clear hK K
  refine L_block (L_loopV [8] (fun m vs H' => ∃ i : Nat, m = n - i ∧ i ≤ n ∧ Go.Proofs.Ytmlhekfkniibmaa.off i (idx x (l.drop i)) = idx x l ∧ vs = [.int .i64 i] ∧ H = H') _ [.int .i64 0] rfl ⟨0, rfl, by omega, by unfold Go.Proofs.Ytmlhekfkniibmaa.off; rw [List.drop_zero]; split <;> omega, rfl, rfl⟩ ?_)
  rintro m _ _ ⟨i, rfl, hi, hno, rfl, rfl⟩
  refine L_reg [0, 1, 7, 8, 9] (fun K hK => ?_)
  simp
  apply hK; clear hK K
  refine L_dec (i < n) (by simp) (fun hlt => ?_) (fun hge => L_exit ?_)
  · refine L_block ?_
    have hrd := hr.ld (i := off + i) (by simp; omega)
    rw [g_app, if_neg (by omega), hp, Nat.add_sub_cancel_left] at hrd
    have hil : i < l.length := by omega
    refine L_reg [0, 1, 5, 7, 8] (fun K hK => ?_)
    simp
    apply hK; clear hK K
    refine L_reg [0, 1, 5, 7, 8, 16] (fun K hK => ?_)
    simp [hrd, hlt]
    apply hK; clear hK K
    by_cases e : x = g l i
    · refine L_true (by simp [← e]) ?_
      rw [idx_here hil e.symm] at hno
      have e3 : Go.Proofs.Ytmlhekfkniibmaa.off i 0 = i := by unfold Go.Proofs.Ytmlhekfkniibmaa.off; rw [if_neg (by omega)]; omega
      rw [e3] at hno
      rw [← hno] at h
      refine L_reg [4] (fun K hK => ?_)
      simp
      apply hK; clear hK K
      exact L_ret ⟨.inr rfl, _, rfl, h⟩
    · refine L_false (by simp [e]) ?_
      rw [off_step hil (fun h => e h.symm)] at hno
      refine L_reg [0, 1, 7, 8] (fun K hK => ?_)
      simp [wrap_i64 (a := (i : Int) + 1) (by omega)]
      apply hK; clear hK K
      exact ⟨n - (i + 1), [.int .i64 (i + 1 : Nat)], by omega, by simp, i + 1, rfl, by omega, hno, rfl, rfl⟩
  · have hi' : i = l.length := by omega
    subst hi'
    rw [List.drop_length] at hno
    rw [← hno] at h
    refine L_reg [4] (fun K hK => ?_)
    simp
    apply hK; clear hK K
    exact L_ret ⟨.inr rfl, _, rfl, h⟩
def cntN (n k : Nat) (x : Int) : Nat := cntS k x n (allS n)
end Go.Proofs.Ytmlhekfkniibmaa

/- Two lists are compared. -/
namespace Go.Proofs.Ytmlhekfkniibmaa
open Go Go.Proofs.Ytmlhekfkniibmaa.AX
theorem same_ac (u v : AV) (l m : List Int) (H : AH) (Q : AV → AH → Prop) (hl : l.length ≤ 1048576) (hu : Ls H u l) (hv : Ls H v m) (h : Q (.bool (decide (l = m))) H) : AC Try.prog 17 [u, v] H Q := by
  obtain ⟨r, off, ver, sz, full, rfl, hu⟩ := hu
  obtain ⟨r2, off2, ver2, sz2, full2, rfl, hv⟩ := hv
  refine L_body 26 Try.func17 rfl rfl ?_
  refine L_reg [0, 1] (fun K hK => ?_)
  simp
  apply hK; clear hK K
  refine L_reg [0, 1, 10] (fun K hK => ?_)
  simp
  apply hK; clear hK K
  by_cases hlen : l.length = m.length
  case neg =>
    refine L_true (by simp; omega) ?_
    refine L_reg [4] (fun K hK => ?_)
    simp
    apply hK; clear hK K
    have : l ≠ m := fun e => hlen (by rw [e])
    rw [decide_eq_false this] at h
    exact L_ret ⟨.inr rfl, _, rfl, h⟩
  refine L_false (by simp [hlen]) ?_
  refine L_reg [0, 1, 5] (fun K hK => ?_)
  simp
  apply hK; clear hK K
  refine L_block (L_loopV [5] (fun k vs H' => ∃ (i : Nat), k = l.length - i ∧ i ≤ l.length ∧ (l.drop i = m.drop i → l = m) ∧ vs = [.int .i64 i] ∧ H' = H) _ [.int .i64 (0 : Nat)] rfl ⟨0, rfl, by omega, by simp, rfl, rfl⟩ ?_)
  rintro k _ _ ⟨i, rfl, hi, hs, rfl, rfl⟩
  refine L_reg [0, 1, 5, 14] (fun K hK => ?_)
  simp
  apply hK; clear hK K
  refine L_dec (i < l.length) (by simp) (fun hlt => ?_) (fun hge => L_exit ?_)
  · obtain ⟨r', rfl, rfl, hld⟩ := hu i hlt
    obtain ⟨r3, rfl, rfl, hld2⟩ := hv i (by omega)
    rw [List.drop_eq_getElem_cons hlt, List.drop_eq_getElem_cons (by omega : i < m.length)] at hs
    refine L_block ?_
    refine L_regT mixed [0, 1, 5, 25] (by kernel_rfl) (fun K hK => ?_)
    simp [hlt, ← hlen, hld, hld2]
    apply hK; clear hK K
    by_cases he : l[i] = m[i]
    · refine L_false (by simp [he]) ?_
      rw [he] at hs
      refine L_reg [0, 1, 5] (fun K hK => ?_)
      simp [wrap_i64 (a := (i : Int) + 1) (by omega)]
      apply hK; clear hK K
      exact ⟨l.length - (i + 1), [.int .i64 (i + 1 : Nat)], by omega, by simp [hlen], i + 1, rfl, by omega, fun e => hs (by rw [e]), rfl, rfl⟩
    · refine L_true (by simp [he]) ?_
      refine L_reg [4] (fun K hK => ?_)
      simp
      apply hK; clear hK K
      have : l ≠ m := fun e => he (by subst e; rfl)
      rw [decide_eq_false this] at h
      exact L_ret ⟨.inr rfl, _, rfl, h⟩
  · refine L_reg [4] (fun K hK => ?_)
    simp
    apply hK; clear hK K
    have : l = m := hs (by rw [List.drop_eq_nil_of_le (by omega), List.drop_eq_nil_of_le (by omega)])
    rw [decide_eq_true this] at h
    exact L_ret ⟨.inr rfl, _, rfl, h⟩
end Go.Proofs.Ytmlhekfkniibmaa

/- How many orders are possible. -/
namespace Go.Proofs.Ytmlhekfkniibmaa
open Go Go.Proofs.Ytmlhekfkniibmaa.AX
theorem tmod_nat (a b : Nat) : ((a : Int)).tmod (b : Int) = ((a % b : Nat) : Int) := by rw [Int.tmod_eq_emod_of_nonneg (by omega)]; rfl
/-- The multiples of a, up to one that b divides. -/
theorem lcm_found {a b j : Nat} (ha : 0 < a) (hb : 0 < b) (hj : 0 < j) (hd : b ∣ a * j) (hmin : ∀ i, 0 < i → i < j → ¬ b ∣ a * i) : a * j = Nat.lcm a b := by
  have h1 : Nat.lcm a b ∣ a * j := Nat.lcm_dvd (Nat.dvd_mul_right a j) hd
  obtain ⟨i, hi⟩ := Nat.dvd_lcm_left a b
  have hi0 : 0 < i := by
    rcases Nat.eq_zero_or_pos i with e | e
    · rw [e, Nat.mul_zero] at hi
      have := Nat.lcm_pos ha hb; omega
    · exact e
  have h2 : b ∣ a * i := by rw [← hi]; exact Nat.dvd_lcm_right a b
  have h3 : j ≤ i := by
    rcases Nat.lt_or_ge i j with e | e
    · exact absurd h2 (hmin i hi0 e)
    · exact e
  have h4 : a * j ≤ Nat.lcm a b := by rw [hi]; exact Nat.mul_le_mul_left a h3
  exact Nat.le_antisymm h4 (Nat.le_of_dvd (Nat.mul_pos ha hj) h1)
theorem common_ac (a b : Nat) (ha : 0 < a) (ha2 : a ≤ 1000000000000) (hb : 0 < b) (hb2 : b ≤ 1000) (H : AH) (Q : AV → AH → Prop) (h : Q (.int .i64 (Nat.lcm a b : Nat)) H) : AC Try.prog 75 [.int .i64 a, .int .i64 b] H Q := by
  refine L_body 15 Try.func75 rfl rfl ?_
  refine L_reg [0, 1] (fun K hK => ?_)
  simp
  apply hK; clear hK K
  refine L_reg [0, 1, 5] (fun K hK => ?_)
  simp
  apply hK; clear hK K
  have hab : a * b ≤ 1000000000000 * 1000 := Nat.mul_le_mul ha2 hb2
  have hb0 : b ≠ 0 := by omega
  refine L_block (L_loopV [5] (fun n vs H' => ∃ (j c : Nat), n = b - j ∧ 0 < j ∧ j ≤ b ∧ c = a * j ∧ (∀ i, 0 < i → i < j → ¬ b ∣ a * i) ∧ vs = [.int .i64 c] ∧ H = H') _ [.int .i64 a] rfl ⟨1, a, rfl, by omega, by omega, by simp, fun i h1 h2 => by omega, rfl, rfl⟩ ?_)
  rintro n _ _ ⟨j, c, rfl, hj0, hj, hc, hmin, rfl, rfl⟩
  have em := tmod_nat c b
  generalize hm : c % b = m at em
  refine L_reg [0, 1, 5, 10] (fun K hK => ?_)
  simp [hb0, em]
  apply hK; clear hK K
  by_cases h0 : m = 0
  · refine L_false (by simp [h0]) (L_exit ?_)
    have hd : b ∣ a * j := by rw [← hc]; exact Nat.dvd_of_mod_eq_zero (by omega)
    rw [← lcm_found ha hb hj0 hd hmin, ← hc] at h
    refine L_reg [4] (fun K hK => ?_)
    simp
    apply hK; clear hK K
    exact L_ret ⟨.inr rfl, _, rfl, h⟩
  · refine L_true (by simp [h0]) (L_block ?_)
    have hjb : j < b := by
      rcases Nat.lt_or_ge j b with e | e
      · exact e
      · have : j = b := by omega
        subst this
        rw [hc, Nat.mul_mod_left] at hm; omega
    have hcb : c ≤ 1000000000000 * 1000 := by rw [hc]; exact Nat.le_trans (Nat.mul_le_mul_left a (by omega)) hab
    have hs : c + a = a * (j + 1) := by rw [hc, Nat.mul_succ]
    refine L_reg [0, 1, 5] (fun K hK => ?_)
    simp [wrap_i64 (a := (c : Int) + a) (by omega)]
    apply hK; clear hK K
    refine ⟨b - (j + 1), [.int .i64 (c + a : Nat)], by omega, by simp, j + 1, c + a, rfl, by omega, by omega, hs, fun i h1 h2 => ?_, rfl, rfl⟩
    by_cases e : i = j
    · subst e
      intro hd
      rw [hc, Nat.mod_eq_zero_of_dvd hd] at hm; omega
    · exact hmin i h1 (by omega)
def lcmS : Nat → Nat
  | 0 => 1
  | n + 1 => Nat.lcm (lcmS n) (n + 1)
theorem lcmS_pos : ∀ n, 0 < lcmS n
  | 0 => by decide
  | n + 1 => Nat.lcm_pos (lcmS_pos n) (by omega)
theorem lcmS_mono : ∀ {n m : Nat}, n ≤ m → lcmS n ∣ lcmS m
  | n, 0, h => by rw [show n = 0 by omega]; exact Nat.dvd_refl _
  | n, m + 1, h => by
    rcases Nat.lt_or_ge n (m + 1) with e | e
    · exact Nat.dvd_trans (lcmS_mono (by omega)) (Nat.dvd_lcm_left _ _)
    · rw [show n = m + 1 by omega]; exact Nat.dvd_refl _
theorem lcmS_20 : lcmS 20 = 232792560 := by decide +kernel
theorem lcmS_le {n : Nat} (h : n ≤ 20) : lcmS n ≤ 232792560 := by rw [← lcmS_20]; exact Nat.le_of_dvd (lcmS_pos _) (lcmS_mono h)
theorem orders_ac (n : Nat) (hn : n ≤ 20) (H : AH) (Q : AV → AH → Prop) (h : Q (.int .i64 (lcmS n : Nat)) H) : AC Try.prog 57 [.int .i64 n] H Q := by
  refine L_body 15 Try.func57 rfl rfl ?_
  refine L_reg [0] (fun K hK => ?_)
  simp
  apply hK; clear hK K
  refine L_reg [0, 3] (fun K hK => ?_)
  simp
  apply hK; clear hK K
  refine L_reg [3, 5, 6] (fun K hK => ?_)
  simp
  apply hK; clear hK K
  refine L_block (L_loopV [3, 6] (fun m vs H' => ∃ (i c : Nat), m = n - i ∧ i ≤ n ∧ c = lcmS i ∧ vs = [.int .i64 c, .int .i64 i] ∧ H = H') _ [.int .i64 1, .int .i64 0] rfl ⟨0, 1, rfl, by omega, rfl, rfl, rfl⟩ ?_)
  rintro m _ _ ⟨i, c, rfl, hi, hc, rfl, rfl⟩
  refine L_reg [3, 5, 6, 7] (fun K hK => ?_)
  simp
  apply hK; clear hK K
  refine L_dec (i < n) (by simp) (fun hlt => ?_) (fun hge => L_exit ?_)
  · refine L_block ?_
    have h0 := lcmS_pos i
    have h1 := lcmS_le (show i ≤ 20 by omega)
    have h2 := common_ac c (i + 1) (by omega) (by omega) (by omega) (by omega) H
    push_cast at h2
    have e : Nat.lcm c (i + 1) = lcmS (i + 1) := by rw [hc]; rfl
    rw [e] at h2
    generalize hd : lcmS (i + 1) = d at *
    refine L_reg [3, 4, 5, 6] (fun K hK => ?_)
    simp
    apply hK; clear hK K
    refine L_reg [3, 5, 6] (fun K hK => ?_)
    simp [okFn_low, wrap_i64 (a := (i : Int) + 1) (by omega)]
    refine h2 _ ?_
    simp
    apply hK; clear hK K
    refine L_reg [3, 5, 6] (fun K hK => ?_)
    simp [wrap_i64 (a := (i : Int) + 1) (by omega)]
    apply hK; clear hK K
    exact ⟨n - (i + 1), [.int .i64 d, .int .i64 (i + 1 : Nat)], by omega, by simp, i + 1, d, rfl, by omega, hd.symm, rfl, rfl⟩
  · have : i = n := by omega
    subst this
    rw [← hc] at h
    refine L_reg [2] (fun K hK => ?_)
    simp
    apply hK; clear hK K
    exact L_ret ⟨.inr rfl, _, rfl, h⟩
def ordersP (n : Int) : Int := if 1 ≤ n ∧ n ≤ 20 then (lcmS n.toNat : Int) else 0
def rangeE (n : Int) : Int := if 1 ≤ n ∧ n ≤ 20 then 0 else 1
theorem Orders_ac (n : Int) (H : AH) (Q : AV → AH → Prop) (h : Q (.tuple [.int .i64 (ordersP n), .int .i64 (rangeE n)]) H) : AC Try.prog 25 [.int .i64 n] H Q := by
  refine L_body 9 Try.func25 rfl rfl ?_
  refine L_reg [0] (fun K hK => ?_)
  simp
  apply hK; clear hK K
  unfold ordersP rangeE at h
  by_cases h1 : 1 ≤ n ∧ n ≤ 20
  · rw [if_pos h1, if_pos h1] at h
    refine L_reg [0, 6] (fun K hK => ?_)
    simp [okFn_low]
    refine isBench_ac n _ _ ?_
    simp [decide_eq_true h1]
    apply hK; clear hK K
    refine L_false (by simp) ?_
    obtain ⟨n, rfl⟩ : ∃ y : Nat, n = y := ⟨n.toNat, by omega⟩
    simp only [Int.toNat_natCast] at h
    refine L_reg [2, 3] (fun K hK => ?_)
    simp [okFn_low]
    refine orders_ac n (by omega) _ _ ?_
    simp
    apply hK; clear hK K
    exact L_ret ⟨.inr rfl, _, rfl, h⟩
  · rw [if_neg h1, if_neg h1] at h
    refine L_reg [0, 6] (fun K hK => ?_)
    simp [okFn_low]
    refine isBench_ac n _ _ ?_
    simp [decide_eq_false h1]
    apply hK; clear hK K
    refine L_true (by simp) ?_
    refine L_reg [2, 3] (fun K hK => ?_)
    simp
    apply hK; clear hK K
    exact L_ret ⟨.inr rfl, _, rfl, h⟩
end Go.Proofs.Ytmlhekfkniibmaa

/- Orders are checked. -/
namespace Go.Proofs.Ytmlhekfkniibmaa
open Go Go.Proofs.Ytmlhekfkniibmaa.AX

@[simp] theorem lenS22 (b : Bool) (r off len ver : Nat) : aLen Try.prog 22 (SV b r off len ver) = some (.int .i64 len) := by
  cases b
  · exact len22 ..
  · unfold aLen SV; rw [und22]; rfl
@[simp] theorem ixaS22 (b : Bool) (r off len ver : Nat) (k : IntKind) (i : Int) : aIndexAddr Try.prog 22 (SV b r off len ver) (.int k i) = if 0 ≤ i ∧ i < len then some (.ptr r (off + i.toNat) ver) else none := by
  cases b
  · have := ixa22 r off len ver false k i
    rw [Nat.mul_one] at this
    exact this
  · obtain ⟨ie, h1, h2⟩ := inf3
    unfold aIndexAddr SV
    rw [und22]
    simp [h1, h2]
theorem sliceS22 {full : Bool} {r off len ver hi : Nat} (h2 : hi ≤ len) : aSlice Try.prog 22 (.slice (some r) off len ver 1 full) none (some (.int .i64 (hi : Int))) (some (.int .i64 (hi : Int))) = some (SV true r off hi ver) := by
  obtain ⟨ie, g1, g2⟩ := inf3
  simp [aSlice, SV, g1, g2, aBounds, aBound, h2, clipOf]
theorem IndexC_ac (b : Bool) (r ver off n : Nat) (x : Int) (l : List Int) (H : AH) (Q : AV → AH → Prop) (hr : ∀ i, i < n → ld H r (off + i) ver = some (.int .i64 (g l i))) (hn : l.length = n) (hlen : n ≤ 1000000) (h : Q (.int .i64 (idx x l)) H) : AC Try.prog 50 [SV b r off n ver, .int .i64 x] H Q := by
  refine L_body 19 Try.func50 rfl rfl ?_
  refine L_reg [0, 1] (fun K hK => ?_)
  simp
  apply hK; clear hK K
  refine L_reg [0, 1, 7, 8] (fun K hK => ?_)
  simp
  apply hK; clear hK K
  refine L_block (L_loopV [8] (fun m vs H' => ∃ i : Nat, m = n - i ∧ i ≤ n ∧ Go.Proofs.Ytmlhekfkniibmaa.off i (idx x (l.drop i)) = idx x l ∧ vs = [.int .i64 i] ∧ H = H') _ [.int .i64 0] rfl ⟨0, rfl, by omega, by unfold Go.Proofs.Ytmlhekfkniibmaa.off; rw [List.drop_zero]; split <;> omega, rfl, rfl⟩ ?_)
  rintro m _ _ ⟨i, rfl, hi, hno, rfl, rfl⟩
  refine L_reg [0, 1, 7, 8, 9] (fun K hK => ?_)
  simp
  apply hK; clear hK K
  refine L_dec (i < n) (by simp) (fun hlt => ?_) (fun hge => L_exit ?_)
  · refine L_block ?_
    have hrd := hr i hlt
    have hil : i < l.length := by omega
    refine L_reg [0, 1, 5, 7, 8] (fun K hK => ?_)
    simp
    apply hK; clear hK K
    refine L_reg [0, 1, 5, 7, 8, 16] (fun K hK => ?_)
    simp [hrd, hlt]
    apply hK; clear hK K
    by_cases e : x = g l i
    · refine L_true (by simp [← e]) ?_
      rw [idx_here hil e.symm] at hno
      have e3 : Go.Proofs.Ytmlhekfkniibmaa.off i 0 = i := by unfold Go.Proofs.Ytmlhekfkniibmaa.off; rw [if_neg (by omega)]; omega
      rw [e3] at hno
      rw [← hno] at h
      refine L_reg [4] (fun K hK => ?_)
      simp
      apply hK; clear hK K
      exact L_ret ⟨.inr rfl, _, rfl, h⟩
    · refine L_false (by simp [e]) ?_
      rw [off_step hil (fun h => e h.symm)] at hno
      refine L_reg [0, 1, 7, 8] (fun K hK => ?_)
      simp [wrap_i64 (a := (i : Int) + 1) (by omega)]
      apply hK; clear hK K
      exact ⟨n - (i + 1), [.int .i64 (i + 1 : Nat)], by omega, by simp, i + 1, rfl, by omega, hno, rfl, rfl⟩
  · have hi' : i = l.length := by omega
    subst hi'
    rw [List.drop_length] at hno
    rw [← hno] at h
    refine L_reg [4] (fun K hK => ?_)
    simp
    apply hK; clear hK K
    exact L_ret ⟨.inr rfl, _, rfl, h⟩
theorem idx_iff {x : Int} {l : List Int} : 0 ≤ idx x l ↔ x ∈ l := by
  constructor
  · intro h
    obtain ⟨p, hp⟩ : ∃ p : Nat, idx x l = p := ⟨(idx x l).toNat, by omega⟩
    obtain ⟨h1, h2⟩ := idx_get hp
    rw [← h2, g_lt h1]; simp
  · exact idx_mem
theorem ContainsC_ac (b : Bool) (r ver off n : Nat) (x : Int) (l : List Int) (H : AH) (Q : AV → AH → Prop) (hr : ∀ i, i < n → ld H r (off + i) ver = some (.int .i64 (g l i))) (hn : l.length = n) (hlen : n ≤ 1000000) (h : Q (.bool (decide (x ∈ l))) H) : AC Try.prog 40 [SV b r off n ver, .int .i64 x] H Q := by
  refine L_body 9 Try.func40 rfl rfl ?_
  refine L_reg [0, 1] (fun K hK => ?_)
  simp
  apply hK; clear hK K
  refine L_reg [4] (fun K hK => ?_)
  simp [okFn_low]
  refine IndexC_ac b r ver off n x l _ _ hr hn hlen ?_
  simp
  apply hK; clear hK K
  have e : decide (0 ≤ idx x l) = decide (x ∈ l) := decide_eq_decide.2 idx_iff
  exact L_ret ⟨.inr rfl, _, rfl, by first | (simpa [e] using h) | (simp only [← e] at h; simpa using h)⟩
theorem Contains_ac (v : AV) (x : Int) (l : List Int) (H : AH) (Q : AV → AH → Prop) (hv : Ls H v l) (hlen : l.length ≤ 1000000) (h : Q (.bool (decide (x ∈ l))) H) : AC Try.prog 40 [v, .int .i64 x] H Q := by
  obtain ⟨r, off, ver, sz, full, rfl, -⟩ := id hv
  refine L_body 9 Try.func40 rfl rfl ?_
  refine L_reg [0, 1] (fun K hK => ?_)
  simp
  apply hK; clear hK K
  refine L_reg [4] (fun K hK => ?_)
  simp [okFn_low]
  refine Index_ac _ l x _ _ hlen hv ?_
  simp
  apply hK; clear hK K
  have e : decide (0 ≤ idx x l) = decide (x ∈ l) := decide_eq_decide.2 idx_iff
  exact L_ret ⟨.inr rfl, _, rfl, by first | (simpa [e] using h) | (simp only [← e] at h; simpa using h)⟩
/-- What a check of an order says, from a place on. -/
def chkS (n : Nat) (pre : List Int) : List Int → Int
  | [] => 0
  | x :: l => if 0 ≤ x ∧ x < n then (if x ∈ pre then 6 else chkS n (pre ++ [x]) l) else 2
def checkP (l : List Int) : Int := if 1 ≤ l.length ∧ l.length ≤ 20 then chkS l.length [] l else 1
theorem chkS_step {n i : Nat} {l : List Int} (hi : i < l.length) : chkS n (l.take i) (l.drop i) = if 0 ≤ g l i ∧ g l i < n then (if g l i ∈ l.take i then 6 else chkS n (l.take (i + 1)) (l.drop (i + 1))) else 2 := by
  rw [List.drop_eq_getElem_cons hi, ← g_lt hi]
  simp only [chkS]
  have : l.take i ++ [g l i] = l.take (i + 1) := by rw [g_lt hi]; simp
  rw [this]
set_option maxHeartbeats 1000000 in
theorem Check_ac (v : AV) (l : List Int) (H : AH) (Q : AV → AH → Prop) (hv : Ls H v l) (hlen : l.length ≤ 1000000) (h : Q (.int .i64 (checkP l)) H) : AC Try.prog 31 [v] H Q := by
  obtain ⟨r, off, ver, sz, full, rfl, hld⟩ := id hv
  refine L_body 28 Try.func31 rfl rfl ?_
  refine L_reg [0] (fun K hK => ?_)
  simp
  apply hK; clear hK K
  unfold checkP at h
  by_cases h1 : 1 ≤ l.length ∧ l.length ≤ 20
  · rw [if_pos h1] at h
    have h1' : (1 : Int) ≤ l.length ∧ (l.length : Int) ≤ 20 := by omega
    refine L_reg [0, 8] (fun K hK => ?_)
    simp [okFn_low]
    refine isBench_ac _ _ _ ?_
    simp [decide_eq_true h1']
    apply hK; clear hK K
    refine L_false (by simp) ?_
    obtain ⟨r', rfl, rfl, -⟩ := hld 0 (by omega)
    have hrd : ∀ i, i < l.length → ld H r' (off + i) ver = some (.int .i64 (g l i)) := fun i hi => by
      obtain ⟨r2, e1, -, e3⟩ := hld i hi
      obtain rfl := Option.some.inj e1
      rw [g_lt hi]; exact e3
    clear hld hv
    generalize hn : l.length = n at *
    refine L_reg [0, 9, 10, 11] (fun K hK => ?_)
    simp
    apply hK; clear hK K
    refine L_block (L_loopV [11] (fun m vs H' => ∃ i : Nat, m = n - i ∧ i ≤ n ∧ chkS n (l.take i) (l.drop i) = chkS n [] l ∧ vs = [.int .i64 i] ∧ H = H') _ [.int .i64 0] rfl ⟨0, rfl, by omega, rfl, rfl, rfl⟩ ?_)
    rintro m _ _ ⟨i, rfl, hi, hc, rfl, rfl⟩
    refine L_reg [0, 9, 10, 11, 12] (fun K hK => ?_)
    simp
    apply hK; clear hK K
    refine L_dec (i < n) (by simp) (fun hlt => ?_) (fun hge => L_exit ?_)
    · refine L_block ?_
      have hx := hrd i hlt
      rw [chkS_step (by omega)] at hc
      generalize hy : g l i = y at *
      refine L_reg [0, 3, 4, 9, 10, 11] (fun K hK => ?_)
      simp [hx, hlt]
      apply hK; clear hK K
      by_cases h2 : 0 ≤ y ∧ y < (n : Int)
      · rw [if_pos h2] at hc
        refine L_reg [0, 3, 4, 9, 10, 11, 20] (fun K hK => ?_)
        simp [okFn_low]
        refine isRoller_ac _ _ _ _ ?_
        simp [h2]
        apply hK; clear hK K
        refine L_false (by simp) ?_
        refine L_reg [0, 9, 10, 11, 26] (fun K hK => ?_)
        simp [okFn_low, sliceS22 (Nat.le_of_lt hlt)]
        refine ContainsC_ac true r' ver off i y (l.take i) _ _ (fun j hj => by rw [hrd j (by omega), g_take hj]) (by simp; omega) (by omega) ?_
        simp
        apply hK; clear hK K
        by_cases h3 : y ∈ l.take i
        · rw [if_pos h3] at hc
          refine L_true (by simp [h3]) ?_
          rw [← hc] at h
          refine L_reg [2] (fun K hK => ?_)
          simp
          apply hK; clear hK K
          exact L_ret ⟨.inr rfl, _, rfl, h⟩
        · rw [if_neg h3] at hc
          refine L_false (by simp [h3]) ?_
          refine L_reg [0, 9, 10, 11] (fun K hK => ?_)
          simp [wrap_i64 (a := (i : Int) + 1) (by omega)]
          apply hK; clear hK K
          exact ⟨n - (i + 1), [.int .i64 (i + 1 : Nat)], by omega, by simp, i + 1, rfl, by omega, hc, rfl, rfl⟩
      · rw [if_neg h2] at hc
        refine L_reg [0, 3, 4, 9, 10, 11, 20] (fun K hK => ?_)
        simp [okFn_low]
        refine isRoller_ac _ _ _ _ ?_
        simp [decide_eq_false h2]
        apply hK; clear hK K
        refine L_true (by simp) ?_
        rw [← hc] at h
        refine L_reg [2] (fun K hK => ?_)
        simp
        apply hK; clear hK K
        exact L_ret ⟨.inr rfl, _, rfl, h⟩
    · have hi' : i = n := by omega
      subst hi'
      rw [List.drop_eq_nil_of_le (by omega)] at hc
      rw [← hc] at h
      refine L_reg [2] (fun K hK => ?_)
      simp
      apply hK; clear hK K
      exact L_ret ⟨.inr rfl, _, rfl, h⟩
  · rw [if_neg h1] at h
    have h1' : ¬ ((1 : Int) ≤ l.length ∧ (l.length : Int) ≤ 20) := by omega
    refine L_reg [0, 8] (fun K hK => ?_)
    simp [okFn_low]
    refine isBench_ac _ _ _ ?_
    simp [decide_eq_false h1']
    apply hK; clear hK K
    refine L_true (by simp) ?_
    refine L_reg [2] (fun K hK => ?_)
    simp
    apply hK; clear hK K
    exact L_ret ⟨.inr rfl, _, rfl, h⟩
theorem chkS_zero {n : Nat} : ∀ {l pre : List Int}, chkS n pre l = 0 → (∀ x ∈ l, 0 ≤ x ∧ x < n) ∧ (∀ x ∈ l, x ∉ pre) ∧ l.Nodup
  | [], _, _ => ⟨by simp, by simp, .nil⟩
  | x :: l, pre, h => by
    simp only [chkS] at h
    split at h
    · rename_i h1
      split at h
      · cases h
      · rename_i h2
        obtain ⟨a, b, c⟩ := chkS_zero h
        refine ⟨?_, ?_, ?_⟩
        · intro y hy
          rcases List.mem_cons.1 hy with e | e
          · rw [e]; exact h1
          · exact a y e
        · intro y hy
          rcases List.mem_cons.1 hy with e | e
          · rw [e]; exact h2
          · exact fun hp => b y e (List.mem_append_left _ hp)
        · rw [List.nodup_cons]
          exact ⟨fun hx => b x hx (by simp), c⟩
    · cases h
theorem checkP_zero {l : List Int} (h : checkP l = 0) : 1 ≤ l.length ∧ l.length ≤ 20 ∧ (∀ x ∈ l, 0 ≤ x ∧ x < l.length) ∧ l.Nodup := by
  unfold checkP at h
  split at h
  · rename_i h1
    obtain ⟨a, -, c⟩ := chkS_zero h
    exact ⟨h1.1, h1.2, a, c⟩
  · cases h
end Go.Proofs.Ytmlhekfkniibmaa

/- Remainders of an order, and its count. -/
namespace Go.Proofs.Ytmlhekfkniibmaa
open Go Go.Proofs.Ytmlhekfkniibmaa.AX

def remS : List Int → List Int → List Int
  | [], _ => []
  | x :: l, sit => (((idx x sit).toNat + 1) % sit.length : Nat) :: remS l (rot sit (idx x sit).toNat)
theorem remS_len : ∀ (l sit : List Int), (remS l sit).length = l.length
  | [], _ => rfl
  | x :: l, sit => by simp [remS, remS_len l]
def remL (l : List Int) : List Int := remS l (allS l.length)
/-- What still goes sits. -/
structure Sits (l sit : List Int) : Prop where
  len : sit.length = l.length
  mem : ∀ x ∈ l, x ∈ sit
  nd : l.Nodup
  sd : sit.Nodup
theorem Sits.step {x : Int} {l sit : List Int} (h : Sits (x :: l) sit) : ∃ p : Nat, idx x sit = p ∧ p < sit.length ∧ Sits l (rot sit p) ∧ g sit p = x := by
  have h1 := idx_mem (h.mem x (by simp))
  obtain ⟨p, hp⟩ : ∃ p : Nat, idx x sit = p := ⟨(idx x sit).toNat, by omega⟩
  obtain ⟨h2, h3⟩ := idx_get hp
  have hn := List.nodup_cons.1 h.nd
  refine ⟨p, hp, h2, ⟨?_, ?_, hn.2, (rot_nodup h2 h.sd).2⟩, h3⟩
  · rw [rot_len h2, h.len]; simp
  · intro y hy
    rcases (rot_mem h2).1 (h.mem y (by simp [hy])) with e | e
    · rw [h3] at e; rw [e] at hy; exact absurd hy hn.1
    · exact e
theorem sits_all {l : List Int} (h : checkP l = 0) : Sits l (allS l.length) := by
  obtain ⟨h1, h2, h3, h4⟩ := checkP_zero h
  exact ⟨allS_len _, fun x hx => mem_allS.2 (h3 x hx), h4, allS_nodup _⟩
set_option maxRecDepth 100000 in
set_option maxHeartbeats 1000000 in
theorem remainders_ac (v : AV) (l : List Int) (H : AH) (Q : AV → AH → Prop) (hv : Ls H v l) (hc : checkP l = 0) (h : ∀ v H', OwnF H.length H' v ((remL l).map (.int .i64)) → Ext H H' → Q v H') : AC Try.prog 59 [v] H Q := by
  obtain ⟨h1, h2, -, -⟩ := checkP_zero hc
  have hS := sits_all hc
  obtain ⟨r, off, ver, sz, full, rfl, hld⟩ := id hv
  refine L_body 37 Try.func59 rfl rfl ?_
  obtain ⟨r', rfl, rfl, -⟩ := hld 0 (by omega)
  have hrd : ∀ i, i < l.length → ld H r' (off + i) ver = some (.int .i64 (g l i)) := fun i hi => by
    obtain ⟨r2, e1, -, e3⟩ := hld i hi
    obtain rfl := Option.some.inj e1
    rw [g_lt hi]; exact e3
  clear hld hv
  unfold remL at h
  obtain ⟨n, hn⟩ : ∃ n, n = l.length := ⟨_, rfl⟩
  rw [← hn] at h1 h2 hS hrd h ⊢
  refine L_reg [0] (fun K hK => ?_)
  simp
  apply hK; clear hK K
  refine L_reg [0, 3] (fun K hK => ?_)
  simp [make_z elz22 (show n ≤ 16777216 by omega)]
  apply hK; clear hK K
  have hE1 : Ext H (H ++ [AObj.row (List.replicate n (AV.int .i64 0)) 0 0 false]) := .push _ _
  have hw : Rw H.length 0 (H ++ [AObj.row (List.replicate n (AV.int .i64 0)) 0 0 false]) (List.replicate n 0) := ⟨0, by simp⟩
  have hl1 : H.length < (H ++ [AObj.row (List.replicate n (AV.int .i64 0)) 0 0 false]).length := by simp
  generalize H ++ [AObj.row (List.replicate n (AV.int .i64 0)) 0 0 false] = H1 at hE1 hw hl1 ⊢
  generalize hp : H.length = p at *
  refine L_reg [0, 3, 4] (fun K hK => ?_)
  simp [okFn_low]
  refine full_ac n (by omega) _ _ (fun H2 r2 E2 => ?_)
  simp
  apply hK; clear hK K
  have hw2 := hw.ext E2
  refine L_reg [3, 4, 14, 15, 16] (fun K hK => ?_)
  simp
  apply hK; clear hK K
  refine L_block (L_loopV [4, 16] (fun m vs H' => ∃ (i : Nat) (b : Bool) (done sit d : List Int), m = n - i ∧ i ≤ n ∧ done.length = i ∧ Sits (l.drop i) sit ∧ vs = [SV b H1.length i (n - i) 0, .int .i64 i] ∧ d.length = n ∧ d.take i ++ remS (l.drop i) sit = remS l (allS n) ∧ Rw H1.length 0 H' (done ++ sit) ∧ Rw p 0 H' d ∧ Ext H H') _ [SV false H1.length 0 n 0, .int .i64 0] rfl ⟨0, false, [], allS n, _, rfl, by omega, rfl, hS, rfl, by simp, rfl, r2, hw2, hE1.trans E2⟩ ?_)
  rintro m _ H3 ⟨i, b, done, sit, d, rfl, hi, hdl, hs, rfl, hdn, hd, hrow, hrd2, hE⟩
  refine L_reg [3, 4, 14, 15, 16, 17] (fun K hK => ?_)
  simp
  apply hK; clear hK K
  refine L_dec (i < n) (by simp) (fun hlt => ?_) (fun hge => L_exit ?_)
  · refine L_block ?_
    have hx := hE.ld (hrd i hlt)
    have hdr : l.drop i = g l i :: l.drop (i + 1) := by rw [g_lt (by omega)]; exact List.drop_eq_getElem_cons (by omega)
    have hsl := hs.len
    rw [List.length_drop, ← hn] at hsl
    rw [hdr] at hs hd
    obtain ⟨q, hq, hql, hs', hgx⟩ := hs.step
    simp only [remS] at hd
    rw [hq, Int.toNat_natCast] at hd
    generalize hy : g l i = y at *
    rw [hsl] at hql hd
    obtain ⟨j, hj⟩ : ∃ j, n - i = j + 1 := ⟨n - i - 1, by omega⟩
    rw [hj] at hsl hql hd ⊢
    obtain ⟨s, hs0⟩ : ∃ s : Nat, s = j + 1 := ⟨_, rfl⟩
    rw [← hs0] at hsl hql hd ⊢
    have em := tmod_nat (q + 1) s
    push_cast at em
    obtain ⟨t, ht⟩ : ∃ t : Nat, t = (q + 1) % s := ⟨_, rfl⟩
    have em2 : ((q : Int) + 1).tmod s = (t : Int) := by rw [em, ht]; rfl
    rw [← ht] at hd
    obtain ⟨H4, e1, e2, e3⟩ := hrd2.put (i := i) (by omega) (t : Int)
    have hrow4 : Rw H1.length 0 H4 (done ++ sit) := by
      obtain ⟨st, hh⟩ := hrow
      exact ⟨st, e3.row (by omega) hh⟩
    refine L_reg [3, 4, 5, 6, 14, 15, 16] (fun K hK => ?_)
    simp [hx, hlt]
    apply hK; clear hK K
    refine L_reg [3, 4, 5, 7, 14, 15, 16] (fun K hK => ?_)
    simp [okFn_low]
    refine IndexS_ac b H1.length 0 i s y done sit _ _ hrow hdl hsl (by omega) ?_
    simp [hq]
    apply hK; clear hK K
    refine L_reg [3, 4, 7, 14, 15, 16] (fun K hK => ?_)
    simp [wrap_i64 (a := (q : Int) + 1) (by omega), show s ≠ 0 by omega, em2, hlt, e1]
    apply hK; clear hK K
    refine L_reg [3, 4, 14, 15, 16] (fun K hK => ?_)
    simp [okFn_low]
    refine leave_ac b H1.length 0 q i s done sit _ _ hrow4 hdl hsl hql (by omega) (fun H5 r5 k5 => ?_)
    simp
    apply hK; clear hK K
    refine L_reg [3, 4, 14, 15, 16] (fun K hK => ?_)
    simp [wrap_i64 (a := (i : Int) + 1) (by omega)]
    apply hK; clear hK K
    have hrd5 : Rw p 0 H5 (d.set i t) := by
      obtain ⟨st, hh⟩ := e2
      exact ⟨st, k5.row (by omega) hh⟩
    have hlen5 : H.length ≤ H1.length := hE1.1
    refine ⟨n - (i + 1), [SV true H1.length (i + 1) (s - 1) 0, .int .i64 (i + 1 : Nat)], by omega, by simp, i + 1, true, done ++ [g sit q], rot sit q, d.set i t, rfl, by omega, by simp [hdl], hs', ?_, by simpa using hdn, ?_, r5, hrd5, k5.new (e3.new hE (by omega)) hlen5⟩
    · rw [show n - (i + 1) = s - 1 by omega]
    · rw [← hd, List.take_set, List.take_add_one, List.getElem?_eq_getElem (by omega)]
      simp only [Option.toList_some]
      rw [List.set_append_right _ _ (by simp; omega)]
      simp [show min i d.length = i by omega]
  · have hi' : i = n := by omega
    subst hi'
    rw [List.drop_eq_nil_of_le (by omega)] at hd
    simp only [remS, List.append_nil] at hd
    rw [List.take_of_length_le (by omega)] at hd
    have ho := hrd2.ownF (N := p) (Nat.le_refl _)
    rw [hdn, hd] at ho
    refine L_reg [2] (fun K hK => ?_)
    simp
    apply hK; clear hK K
    exact L_ret ⟨.inr rfl, _, rfl, h _ H3 ho hE⟩
def remP (l : List Int) : List Int := if checkP l = 0 then remL l else []
theorem Remainders_ac (v : AV) (l : List Int) (H : AH) (Q : AV → AH → Prop) (hv : Ls H v l) (hlen : l.length ≤ 1000000) (h : ∀ v H', OwnF H.length H' v ((remP l).map (.int .i64)) → Ext H H' → Q (.tuple [v, .int .i64 (checkP l)]) H') : AC Try.prog 27 [v] H Q := by
  refine L_body 12 Try.func27 rfl rfl ?_
  refine L_reg [0] (fun K hK => ?_)
  simp
  apply hK; clear hK K
  refine L_reg [0, 4] (fun K hK => ?_)
  simp [okFn_low]
  refine Check_ac v l _ _ hv hlen ?_
  simp
  apply hK; clear hK K
  refine L_reg [0, 4, 8] (fun K hK => ?_)
  simp
  apply hK; clear hK K
  unfold remP at h
  by_cases h0 : checkP l = 0
  · rw [if_pos h0, h0] at h
    refine L_false (by simp [h0]) ?_
    refine L_reg [2, 3] (fun K hK => ?_)
    simp [okFn_low]
    refine remainders_ac v l _ _ hv h0 (fun w H1 o1 E1 => ?_)
    simp
    apply hK; clear hK K
    exact L_ret ⟨.inr rfl, _, rfl, h w H1 o1 E1⟩
  · rw [if_neg h0] at h
    refine L_true (by simp [h0]) ?_
    refine L_reg [2, 3] (fun K hK => ?_)
    simp
    apply hK; clear hK K
    exact L_ret ⟨.inr rfl, _, rfl, h _ _ (.nil _ _) (.refl _)⟩
end Go.Proofs.Ytmlhekfkniibmaa

/- Loops whose rounds end behind a condition: some slots alone are compared. -/
namespace Go.Proofs.Ytmlhekfkniibmaa
open Go Go.Proofs.Ytmlhekfkniibmaa.AX
section
variable {P : Program} {nt : Nat} {e : Env} {H : AH}
theorem L_loopK (ks : List Nat) {c : Code} {cs : List Code} {Q : Ex → Env → AH → Prop} (ts : List Nat) (I : Nat → List AV → AH → Prop) (n0 : Nat) (vs0 : List AV) (hk : ekeep ks e = e) (he : esets e ts vs0 = e) (h0 : I n0 vs0 H)
    (round : ∀ n vs H, I n vs H → AWL P nt (flat c) (esets e ts vs) H fun x e' H' => match x with | .normal => ∃ n' vs', n' < n ∧ ekeep ks e' = esets e ts vs' ∧ I n' vs' H' | x => More P nt cs Q x e' H') : AWL P nt (.loop c :: cs) e H Q := by
  refine AWL_cons (AW_loop (fun n e1 H1 => ∃ vs, ekeep ks e1 = esets e ts vs ∧ I n vs H1) n0 ⟨vs0, by rw [hk, he], h0⟩ ?_)
  rintro n e1 H1 ⟨vs, he1, hI⟩
  refine AW.keepE ks ?_
  rw [he1]
  refine AW_of_flat (AWL_mono (fun x e' H' hx => ?_) (round n vs H1 hI))
  cases x with
  | normal => obtain ⟨n', vs', h1, h2, h3⟩ := hx; exact ⟨n', h1, vs', h2, h3⟩
  | exit i => exact hx
  | goto i => exact hx
  | ret => exact hx
end
end Go.Proofs.Ytmlhekfkniibmaa

/- The smallest count with some remainders. -/
namespace Go.Proofs.Ytmlhekfkniibmaa
open Go Go.Proofs.Ytmlhekfkniibmaa.AX

/-- All counts with C are c, c + S, c + 2 S and so on. -/
def Gen (C : Nat → Prop) (S c : Nat) : Prop := 1 ≤ c ∧ c ≤ S ∧ ∀ k, 1 ≤ k → (C k ↔ ∃ i, k = c + i * S)
theorem gen_start : Gen (fun _ => True) 1 1 := ⟨by omega, by omega, fun k hk => ⟨fun _ => ⟨k - 1, by omega⟩, fun _ => trivial⟩⟩
theorem lcm_times {S d : Nat} (hS : 0 < S) (hd : 0 < d) : ∃ t, Nat.lcm S d = S * t ∧ 0 < t ∧ d ∣ S * t := by
  obtain ⟨t, ht⟩ := Nat.dvd_lcm_left S d
  refine ⟨t, ht, ?_, ?_⟩
  · rcases Nat.eq_zero_or_pos t with e | e
    · rw [e, Nat.mul_zero] at ht
      have := Nat.lcm_pos hS hd; omega
    · exact e
  · rw [← ht]; exact Nat.dvd_lcm_right S d
theorem mod_add_dvd {a b d : Nat} (h : d ∣ b) : (a + b) % d = a % d := by
  obtain ⟨t, rfl⟩ := h
  exact Nat.add_mul_mod_self_left a d t
theorem gen_next {C : Nat → Prop} {S c d r i : Nat} (h : Gen C S c) (hd : 0 < d) (hi : (c + i * S) % d = r) (hmin : ∀ j, j < i → (c + j * S) % d ≠ r) : Gen (fun k => C k ∧ k % d = r) (Nat.lcm S d) (c + i * S) := by
  obtain ⟨h1, h2, h3⟩ := h
  have hS : 0 < S := by omega
  obtain ⟨t, ht, ht0, hdt⟩ := lcm_times hS hd
  rw [ht]
  have hit : i < t := by
    rcases Nat.lt_or_ge i t with e | e
    · exact e
    · exfalso
      refine hmin (i - t) (by omega) ?_
      rw [← hi]
      have : c + i * S = (c + (i - t) * S) + S * t := by
        rw [Nat.sub_mul, Nat.mul_comm S t]
        have := Nat.mul_le_mul_right S e
        omega
      rw [this, mod_add_dvd hdt]
  refine ⟨by omega, ?_, fun k hk => ⟨?_, ?_⟩⟩
  · have : (i + 1) * S ≤ t * S := Nat.mul_le_mul_right S (by omega)
    rw [Nat.succ_mul] at this
    rw [Nat.mul_comm S t]
    omega
  · rintro ⟨hC, hr⟩
    obtain ⟨j, rfl⟩ := (h3 k hk).1 hC
    have hij : i ≤ j := by
      rcases Nat.lt_or_ge j i with e | e
      · exact absurd hr (hmin j e)
      · exact e
    obtain ⟨m, rfl⟩ : ∃ m, j = i + m := ⟨j - i, by omega⟩
    have e1 : c + (i + m) * S = (c + i * S) + m * S := by rw [Nat.add_mul]; omega
    have hdm : d ∣ m * S := by
      rw [e1, ← hi] at hr
      have h4 := Nat.sub_mod_eq_zero_of_mod_eq hr
      have h5 : c + i * S + m * S - (c + i * S) = m * S := by omega
      rw [h5] at h4
      exact Nat.dvd_of_mod_eq_zero h4
    have hl : Nat.lcm S d ∣ m * S := Nat.lcm_dvd (Nat.dvd_mul_left S m) hdm
    rw [ht] at hl
    obtain ⟨q, hq⟩ := hl
    exact ⟨q, by rw [e1, hq, Nat.mul_comm q]⟩
  · rintro ⟨q, rfl⟩
    have e1 : c + i * S + q * (S * t) = c + (i + q * t) * S := by
      rw [Nat.add_mul, Nat.add_assoc, Nat.mul_assoc, Nat.mul_comm t S]
    refine ⟨(h3 _ hk).2 ⟨i + q * t, e1⟩, ?_⟩
    rw [mod_add_dvd (Nat.dvd_trans hdt (Nat.dvd_mul_left _ _))]
    exact hi
/-- Nothing fits when nothing up to the next one fits. -/
theorem gen_none {C : Nat → Prop} {S c d r : Nat} (h : Gen C S c) (hd : 0 < d) (hn : ∀ j, c + j * S ≤ Nat.lcm S d → (c + j * S) % d ≠ r) : ∀ k, 1 ≤ k → ¬ (C k ∧ k % d = r) := by
  obtain ⟨h1, h2, h3⟩ := h
  have hS : 0 < S := by omega
  obtain ⟨t, ht, ht0, hdt⟩ := lcm_times hS hd
  rw [ht] at hn
  rintro k hk ⟨hC, hr⟩
  obtain ⟨j, rfl⟩ := (h3 k hk).1 hC
  refine hn (j % t) ?_ ?_
  · have h4 := Nat.mod_lt j ht0
    have : (j % t + 1) * S ≤ t * S := Nat.mul_le_mul_right S (by omega)
    rw [Nat.succ_mul] at this
    rw [Nat.mul_comm S t]; omega
  · rw [← hr]
    have h4 := Nat.div_add_mod j t
    have : c + j * S = (c + j % t * S) + (j / t) * (S * t) := by
      conv => lhs; rw [← h4]
      rw [Nat.add_mul, Nat.mul_comm t, Nat.mul_assoc, Nat.mul_comm t S]; omega
    rw [this, mod_add_dvd (Nat.dvd_trans hdt (Nat.dvd_mul_left _ _))]
/-- A count leaves the remainders of a list, from a place on. -/
def Fits (rs : List Int) (k : Nat) : Prop := ∀ i, i < rs.length → ((k % (rs.length - i) : Nat) : Int) = g rs i
/-- The smallest one. -/
def Least (C : Nat → Prop) (k : Nat) : Prop := 1 ≤ k ∧ C k ∧ ∀ j, 1 ≤ j → C j → k ≤ j
theorem gen_least {C : Nat → Prop} {S c : Nat} (h : Gen C S c) : Least C c := by
  obtain ⟨h1, h2, h3⟩ := h
  refine ⟨h1, (h3 c h1).2 ⟨0, by omega⟩, fun j hj hC => ?_⟩
  obtain ⟨i, rfl⟩ := (h3 j hj).1 hC
  omega
theorem gen_congr {C D : Nat → Prop} {S c : Nat} (h : Gen C S c) (e : ∀ k, C k ↔ D k) : Gen D S c := ⟨h.1, h.2.1, fun k hk => by rw [← e]; exact h.2.2 k hk⟩
theorem nat_int_mod {a d : Nat} {r : Int} (h0 : 0 ≤ r) : ((a % d : Nat) : Int) = r ↔ a % d = r.toNat := by omega
theorem lcm_dvd_S {n d S : Nat} (hS : S ∣ lcmS n) (hd : 0 < d) (hdn : d ≤ n) : Nat.lcm S d ∣ lcmS n := by
  refine Nat.lcm_dvd hS ?_
  have h1 : d ∣ lcmS d := by
    cases d with
    | zero => omega
    | succ d => exact Nat.dvd_lcm_right _ _
  exact Nat.dvd_trans h1 (lcmS_mono hdn)
/-- What is asked up to a place. -/
def FitI (rs : List Int) (p k : Nat) : Prop := ∀ i, i < p → ((k % (rs.length - i) : Nat) : Int) = g rs i
theorem fitI_succ {rs : List Int} {p : Nat} (k : Nat) : (FitI rs p k ∧ ((k % (rs.length - p) : Nat) : Int) = g rs p) ↔ FitI rs (p + 1) k := by
  constructor
  · rintro ⟨h1, h2⟩ i hi
    rcases Nat.lt_or_ge i p with e | e
    · exact h1 i e
    · rw [show i = p by omega]; exact h2
  · intro h
    exact ⟨fun i hi => h i (by omega), h p (by omega)⟩
set_option maxRecDepth 100000 in
set_option maxHeartbeats 1000000 in
theorem countOf_ac (v : AV) (rs : List Int) (H : AH) (Q : AV → AH → Prop) (hv : Ls H v rs) (hl0 : 1 ≤ rs.length) (hl : rs.length ≤ 20) (hpos : ∀ i, i < rs.length → 0 ≤ g rs i)
    (h1 : ∀ k : Nat, Least (Fits rs) k → Q (.tuple [.int .i64 k, .bool true]) H) (h2 : (∀ k, 1 ≤ k → ¬ Fits rs k) → Q (.tuple [.int .i64 0, .bool false]) H) : AC Try.prog 61 [v] H Q := by
  obtain ⟨r, off, ver, sz, full, rfl, hld⟩ := id hv
  refine L_body 38 Try.func61 rfl rfl ?_
  obtain ⟨r', rfl, rfl, -⟩ := hld 0 (by omega)
  have hrd : ∀ i, i < rs.length → ld H r' (off + i) ver = some (.int .i64 (g rs i)) := fun i hi => by
    obtain ⟨r2, e1, -, e3⟩ := hld i hi
    obtain rfl := Option.some.inj e1
    rw [g_lt hi]; exact e3
  clear hld hv
  obtain ⟨n, hn⟩ : ∃ n, n = rs.length := ⟨_, rfl⟩
  rw [← hn] at hl0 hl hpos hrd ⊢
  refine L_reg [0] (fun K hK => ?_)
  simp
  apply hK; clear hK K
  refine L_reg [0, 4, 5] (fun K hK => ?_)
  simp
  apply hK; clear hK K
  refine L_reg [0, 4, 5, 10, 11, 12] (fun K hK => ?_)
  simp
  apply hK; clear hK K
  refine L_block (L_loopV [4, 5, 12] (fun m vs H' => ∃ (p c S : Nat), m = n - p ∧ p ≤ n ∧ Gen (FitI rs p) S c ∧ S ∣ lcmS n ∧ vs = [.int .i64 c, .int .i64 S, .int .i64 p] ∧ H = H') _ [.int .i64 1, .int .i64 1, .int .i64 0] rfl ⟨0, 1, 1, rfl, by omega, gen_congr gen_start (fun k => ⟨fun _ i hi => by omega, fun _ => trivial⟩), Nat.one_dvd _, rfl, rfl⟩ ?_)
  rintro m _ _ ⟨p, c, S, rfl, hp, hG, hS, rfl, rfl⟩
  refine L_reg [0, 4, 5, 10, 11, 12, 13] (fun K hK => ?_)
  simp
  apply hK; clear hK K
  refine L_dec (p < n) (by simp) (fun hlt => ?_) (fun hge => L_exit ?_)
  · refine L_block ?_
    have hx := hrd p hlt
    obtain ⟨d, hd⟩ : ∃ d : Nat, d = n - p := ⟨_, rfl⟩
    have hdi : (n : Int) - p = (d : Int) := by omega
    have hS0 : 0 < S := by have := hG.1; have := hG.2.1; omega
    have hLd := lcm_dvd_S hS (show 0 < d by omega) (show d ≤ n by omega)
    have hSl : S ≤ 232792560 := Nat.le_trans (Nat.le_of_dvd (lcmS_pos n) hS) (lcmS_le hl)
    have hLl : Nat.lcm S d ≤ 232792560 := Nat.le_trans (Nat.le_of_dvd (lcmS_pos n) hLd) (lcmS_le hl)
    have hr0 := hpos p hlt
    have hcm := common_ac S d hS0 (by omega) (by omega) (by omega) H
    obtain ⟨L, hL⟩ : ∃ L : Nat, L = Nat.lcm S d := ⟨_, rfl⟩
    have hstep : ∀ k, (FitI rs p k ∧ k % d = (g rs p).toNat) ↔ FitI rs (p + 1) k := fun k => by
      rw [← fitI_succ, ← hn, ← hd, nat_int_mod hr0]
    rw [← hL] at hLd hLl hcm
    generalize hy : g rs p = y at *
    refine L_reg [0, 4, 5, 6, 7, 10, 11, 12] (fun K hK => ?_)
    simp [hx, hlt]
    apply hK; clear hK K
    refine L_reg [0, 4, 5, 7, 8, 10, 11, 12] (fun K hK => ?_)
    simp [hdi, wrap_i64 (a := (d : Int)) (by omega)]
    apply hK; clear hK K
    refine L_reg [0, 4, 5, 7, 8, 9, 10, 11, 12] (fun K hK => ?_)
    simp [okFn_low]
    refine hcm _ ?_
    simp
    apply hK; clear hK K
    have hd0 : d ≠ 0 := by omega
    have hcl := hG.2.1
    have hS2 : S ∣ L := by rw [hL]; exact Nat.dvd_lcm_left _ _
    have hSL := Nat.le_of_dvd (by rw [hL]; exact Nat.lcm_pos hS0 (by omega)) hS2
    refine L_block (L_loopK [0, 4, 5, 7, 8, 9, 10, 11, 12] [4] (fun m vs H' => ∃ (i k : Nat), m = L - k ∧ k = c + i * S ∧ k ≤ L ∧ (∀ j, j < i → (c + j * S) % d ≠ y.toNat) ∧ vs = [.int .i64 k] ∧ H = H') _ [.int .i64 c] rfl rfl ⟨0, c, rfl, by omega, by omega, fun j hj => by omega, rfl, rfl⟩ ?_)
    rintro m _ _ ⟨i, k, rfl, hk, hkL, hmin, rfl, rfl⟩
    have em := tmod_nat k d
    generalize hm : k % d = km at em
    refine L_reg [0, 4, 5, 7, 8, 9, 10, 11, 12, 28] (fun K hK => ?_)
    simp [hd0, em]
    apply hK; clear hK K
    by_cases hfit : (km : Int) = y
    · refine L_false (by simp [hfit]) (L_exit ?_)
      have hG' := gen_next hG (show 0 < d by omega) (show (c + i * S) % d = y.toNat by rw [← hk]; omega) hmin
      rw [← hk, ← hL] at hG'
      refine L_reg [0, 4, 5, 10, 11, 12] (fun K hK => ?_)
      simp
      apply hK; clear hK K
      refine L_reg [0, 4, 5, 10, 11, 12] (fun K hK => ?_)
      simp [wrap_i64 (a := (p : Int) + 1) (by omega)]
      apply hK; clear hK K
      exact ⟨n - (p + 1), [.int .i64 k, .int .i64 L, .int .i64 (p + 1 : Nat)], by omega, by simp, p + 1, k, L, rfl, by omega, gen_congr hG' hstep, hLd, rfl, rfl⟩
    · refine L_true (by simp [hfit]) (L_block ?_)
      have hnf : (c + i * S) % d ≠ y.toNat := by rw [← hk]; omega
      have hmin' : ∀ j, j < i + 1 → (c + j * S) % d ≠ y.toNat := fun j hj => by
        rcases Nat.lt_or_ge j i with e | e
        · exact hmin j e
        · rw [show j = i by omega]; exact hnf
      have hks : k + S = c + (i + 1) * S := by rw [hk, Nat.succ_mul]; omega
      refine L_reg [0, 4, 5, 7, 8, 9, 10, 11, 12] (fun K hK => ?_)
      simp [wrap_i64 (a := (k : Int) + S) (by omega)]
      apply hK; clear hK K
      refine L_reg [0, 4, 5, 7, 8, 9, 10, 11, 12, 34] (fun K hK => ?_)
      simp
      apply hK; clear hK K
      refine L_dec ((L : Int) < (k : Int) + S) (by simp) (fun hgt => ?_) (fun hle => ?_)
      · have hno := gen_none (r := y.toNat) hG (show 0 < d by omega) (fun j hj => hmin' j (by
          rcases Nat.lt_or_ge j (i + 1) with e | e
          · exact e
          · have := Nat.mul_le_mul_right S e
            rw [← hL] at hj; omega))
        refine L_reg [2, 3] (fun K hK => ?_)
        simp
        apply hK; clear hK K
        exact L_ret ⟨.inr rfl, _, rfl, h2 fun k hk hF => hno k hk ((hstep k).2 (fun i hi => hF i (by omega)))⟩
      · exact ⟨L - (k + S), [.int .i64 (k + S : Nat)], by omega, by simp, i + 1, k + S, rfl, hks, by omega, hmin', rfl, rfl⟩
  · have hp' : p = n := by omega
    subst hp'
    refine L_reg [2, 3] (fun K hK => ?_)
    simp
    apply hK; clear hK K
    exact L_ret ⟨.inr rfl, _, rfl, h1 c (by rw [hn] at hG; exact gen_least hG)⟩
/-- What is asked for the last places. -/
def FitR (rs : List Int) (m k : Nat) : Prop := ∀ i, i < rs.length → rs.length - i < m → ((k % (rs.length - i) : Nat) : Int) = g rs i
theorem remS_pos : ∀ (l sit : List Int) (i : Nat), i < (remS l sit).length → 0 ≤ g (remS l sit) i
  | [], _, i, h => by simp [remS] at h
  | x :: l, sit, 0, _ => by simp only [remS, g, List.getD_cons_zero]; omega
  | x :: l, sit, i + 1, h => by
    have := remS_pos l (rot sit (idx x sit).toNat) i (by simpa [remS] using h)
    simpa [remS, g] using this
def countQ (l : List Int) (H : AH) (Q : AV → AH → Prop) : Prop :=
  (checkP l ≠ 0 → Q (.tuple [.int .i64 0, .int .i64 (checkP l)]) H) ∧ (checkP l = 0 → (∀ k : Nat, Least (Fits (remL l)) k → Q (.tuple [.int .i64 k, .int .i64 0]) H) ∧ ((∀ k, 1 ≤ k → ¬ Fits (remL l) k) → Q (.tuple [.int .i64 0, .int .i64 12]) H))
theorem Count_ac (v : AV) (l : List Int) (H : AH) (Q : AV → AH → Prop) (hv : Ls H v l) (hlen : l.length ≤ 1000000) (h : ∀ H', Ext H H' → countQ l H' Q) : AC Try.prog 29 [v] H Q := by
  refine L_body 21 Try.func29 rfl rfl ?_
  refine L_reg [0] (fun K hK => ?_)
  simp
  apply hK; clear hK K
  refine L_reg [0, 4] (fun K hK => ?_)
  simp [okFn_low]
  refine Check_ac v l _ _ hv hlen ?_
  simp
  apply hK; clear hK K
  refine L_reg [0, 4, 10] (fun K hK => ?_)
  simp
  apply hK; clear hK K
  by_cases h0 : checkP l = 0
  · refine L_false (by simp [h0]) ?_
    obtain ⟨a1, a2, -, -⟩ := checkP_zero h0
    have hrl : (remL l).length = l.length := remS_len _ _
    have hrp := remS_pos l (allS l.length)
    refine L_reg [5, 6] (fun K hK => ?_)
    simp [okFn_low]
    refine remainders_ac v l _ _ hv h0 (fun w H1 o1 E1 => ?_)
    obtain ⟨q1, q2⟩ := (h H1 E1).2 h0
    simp [okFn_low]
    refine countOf_ac w (remL l) _ _ o1.own.ls (by omega) (by omega) hrp (fun k hk => ?_) (fun hno => ?_)
    · simp
      apply hK; clear hK K
      refine L_reg [5, 19] (fun K hK => ?_)
      simp
      apply hK; clear hK K
      refine L_false (by simp) ?_
      refine L_reg [2, 3] (fun K hK => ?_)
      simp
      apply hK; clear hK K
      exact L_ret ⟨.inr rfl, _, rfl, q1 k hk⟩
    · simp
      apply hK; clear hK K
      refine L_reg [5, 19] (fun K hK => ?_)
      simp
      apply hK; clear hK K
      refine L_true (by simp) ?_
      refine L_reg [2, 3] (fun K hK => ?_)
      simp
      apply hK; clear hK K
      exact L_ret ⟨.inr rfl, _, rfl, q2 hno⟩
  · refine L_true (by simp [h0]) ?_
    refine L_reg [2, 3] (fun K hK => ?_)
    simp
    apply hK; clear hK K
    exact L_ret ⟨.inr rfl, _, rfl, (h H (.refl _)).1 h0⟩
end Go.Proofs.Ytmlhekfkniibmaa

/- BenchCounts, walked. -/
namespace Go.Proofs.Ytmlhekfkniibmaa
open Go Go.Proofs.Ytmlhekfkniibmaa.AX
end Go.Proofs.Ytmlhekfkniibmaa

/- Sorting a part of a row: what is asked of lists. -/
namespace Go.Proofs.Ytmlhekfkniibmaa.Ord
open Go Go.Proofs.Ytmlhekfkniibmaa.AX Go.Proofs.Ytmlhekfkniibmaa
variable {sb : Bool}
/-- A row that begins with these numbers. -/
def Rw (r ver : Nat) (H : AH) (c : List Int) : Prop := ∃ s tl, H[r]? = some (.row (c.map (.int .i64) ++ tl) ver s false)
theorem Rw.ld {r ver i : Nat} {H : AH} {c : List Int} (h : Rw r ver H c) (hi : i < c.length) : AX.ld H r i ver = some (.int .i64 (g c i)) := by
  obtain ⟨s, tl, h⟩ := h
  rw [ld_row h, g_lt hi, List.getElem?_append_left (by simpa using hi)]; simp [hi]
theorem Rw.ext {r ver : Nat} {H H' : AH} {c : List Int} (h : Rw r ver H c) (hE : Ext H H') : Rw r ver H' c := by
  obtain ⟨s, tl, h⟩ := h
  exact ⟨s, tl, hE.row h⟩
theorem Rw.swap {r ver i j : Nat} {H : AH} {c : List Int} (h : Rw r ver H c) (hi : i < c.length) (hj : j < c.length) :
    ∃ H1 H2, storeV Try.prog 3 H (.ptr r i ver) (.int .i64 (g c j)) = some (none, H1) ∧ storeV Try.prog 3 H1 (.ptr r j ver) (.int .i64 (g c i)) = some (none, H2) ∧ Rw r ver H2 (sw c i j) ∧ KeepX r H H2 := by
  obtain ⟨s, tl, h⟩ := h
  have h1 := store_row (P := Try.prog) (u := 3) (p := i) sc3 (x := .int .i64 (g c j)) (y := .int .i64 c[i]) rfl h (by rw [List.getElem?_append_left (by simpa using hi)]; simp [hi])
  have e1 : (c.map (AV.int .i64) ++ tl).set i (.int .i64 (g c j)) = (c.set i (g c j)).map (.int .i64) ++ tl := by rw [List.set_append_left _ _ (by simpa using hi), List.map_set]
  rw [e1] at h1
  have hr1 := get_set (o' := .row ((c.set i (g c j)).map (.int .i64) ++ tl) ver (min s i) false) h
  have h2 := store_row (P := Try.prog) (u := 3) (p := j) sc3 (x := .int .i64 (g c i)) (y := .int .i64 ((c.set i (g c j))[j]'(by simpa using hj))) rfl hr1 (by rw [List.getElem?_append_left (by simpa using hj), List.getElem?_map, List.getElem?_eq_getElem (by simpa using hj)]; rfl)
  have e2 : ((c.set i (g c j)).map (AV.int .i64) ++ tl).set j (.int .i64 (g c i)) = (sw c i j).map (.int .i64) ++ tl := by rw [List.set_append_left _ _ (by simpa using hj), ← List.map_set]; rfl
  rw [e2] at h2
  exact ⟨_, _, h1, h2, ⟨_, tl, get_set hr1⟩, ((KeepX.refl r H).set _).set _⟩
/-- What a comparison says. -/
def cmpS (a b : Int) : Int := if a < b then -1 else if b < a then 1 else 0
/-- Sorted between a and b. -/
def Srt (κ : Int → Int) (a b : Nat) (c : List Int) : Prop := ∀ p q, a ≤ p → p < q → q < b → κ (g c p) ≤ κ (g c q)
def All (D : Int → Prop) (c : List Int) : Prop := ∀ i, i < c.length → D (g c i)
/-- What stands while a pivot is chosen: the row, and how often two were out of order. -/
structure Piv (r ver sp : Nat) (B : AH) (c : List Int) (k : Nat) (H : AH) : Prop where
  keep : KeepX r B H
  row : Rw r ver H c
  lt : B.length ≤ sp
  ne : r ≠ sp
  cnt : ∃ s st : Nat, s ≤ k ∧ H[sp]? = some (.row [.int .i64 s] 0 st false)
theorem Piv.mono {r ver sp k k' : Nat} {B H : AH} {c : List Int} (h : Piv r ver sp B c k H) (hk : k ≤ k') : Piv r ver sp B c k' H :=
  ⟨h.keep, h.row, h.lt, h.ne, let ⟨s, st, h1, h2⟩ := h.cnt; ⟨s, st, by omega, h2⟩⟩
/-- What lies below place i is not greater. -/
def Hp (κ : Int → Int) (f hi : Nat) (d : List Int) (i : Nat) : Prop := ∀ c, c = 2 * i + 1 ∨ c = 2 * i + 2 → c < hi → κ (g d (f + c)) ≤ κ (g d (f + i))
def lenN (n : Nat) : Nat := if n < 1 then 0 else if n < 2 then 1 else if n < 4 then 2 else if n < 8 then 3 else if n < 16 then 4 else if n < 32 then 5 else if n < 64 then 6 else 7
@[simp] theorem cvA (n : Nat) (hn : n ≤ 1000000) : aConv Try.prog 3 50 (.int .i64 n) = some (.int .u64 n) := by
  rw [cv_int (by kernel_rfl) (by kernel_rfl) n, wrap_u64 (by omega)]
theorem Srt.more {κ : Int → Int} {a i : Nat} {d : List Int} (h : Srt κ a (i + 1) d) (hi : a ≤ i) (h1 : κ (g d i) ≤ κ (g d (i + 1))) : Srt κ a (i + 2) d := by
  intro p q h2 h3 h4
  by_cases e : q = i + 1
  · subst e
    by_cases e2 : p = i
    · subst e2; exact h1
    · exact Int.le_trans (h p i h2 (by omega) (by omega)) h1
  · exact h p q h2 h3 (by omega)
/-- Sorted, but for what lies between a' and b'. -/
def OrdEx (κ : Int → Int) (a b a' b' : Nat) (d : List Int) : Prop := ∀ p q, a ≤ p → p < q → q < b → ¬ (a' ≤ p ∧ q < b') → κ (g d p) ≤ κ (g d q)
def Pre (κ : Int → Int) (a b : Nat) (d : List Int) : Prop := 0 < a → ∀ k, a ≤ k → k < b → κ (g d (a - 1)) ≤ κ (g d k)
theorem OrdEx.mix {κ : Int → Int} {a b a' b' : Nat} {d m : List Int} (h : OrdEx κ a b a' b' d) (hS : Shuf a' b' d m) (hb : b' ≤ d.length) (haa : a ≤ a') (hbb : b' ≤ b) : OrdEx κ a b a' b' m := by
  intro p q h1 h2 h3 h4
  by_cases hp : a' ≤ p ∧ p < b'
  · have hq : b' ≤ q := by omega
    rw [hS.2 q (by omega)]
    exact hS.all hb (p := fun x => κ x ≤ κ (g d q)) (fun k k1 k2 => h k q (by omega) (by omega) h3 (by omega)) p hp.1 hp.2
  · rw [hS.2 p (by omega)]
    by_cases hq : a' ≤ q ∧ q < b'
    · exact hS.all hb (p := fun x => κ (g d p) ≤ κ x) (fun k k1 k2 => h p k h1 (by omega) (by omega) (by omega)) q hq.1 hq.2
    · rw [hS.2 q (by omega)]
      exact h p q h1 h2 h3 h4
theorem Pre.mix {κ : Int → Int} {a b : Nat} {d m : List Int} (h : Pre κ a b d) (hS : Shuf a b d m) (hb : b ≤ d.length) : Pre κ a b m := by
  intro h0 k k1 k2
  rw [hS.2 (a - 1) (by omega)]
  exact hS.all hb (p := fun x => κ (g d (a - 1)) ≤ κ x) (fun k k1 k2 => h h0 k k1 k2) k k1 k2
end Go.Proofs.Ytmlhekfkniibmaa.Ord

/- Sorting numbers (Sort1). -/
namespace Go.Proofs.Ytmlhekfkniibmaa.Ord
open Go Go.Proofs.Ytmlhekfkniibmaa.AX Go.Proofs.Ytmlhekfkniibmaa
variable {sb : Bool}

/-- What Less says of two numbers, by κ, as long as rows other than r stay. -/
def CmpO (D : Int → Prop) (κ : Int → Int) (r : Nat) (H : AH) : Prop :=
  True ∧ ∀ H', KeepX r H H' → ∀ x y, D x → D y → ∀ Q : AV → AH → Prop, Q (.bool (decide (cmpS (κ x) (κ y) < 0))) H' → AC Try.prog 86 [.int .i64 x, .int .i64 y] H' Q
theorem CmpO.keep {D : Int → Prop} {κ : Int → Int} {r : Nat} {H H1 : AH} (h : CmpO D κ r H) (hK : KeepX r H H1) : CmpO D κ r H1 := ⟨h.1, fun H' h1 => h.2 H' (hK.trans h1)⟩
end Go.Proofs.Ytmlhekfkniibmaa.Ord

/- Sorting numbers (Sort2). -/
namespace Go.Proofs.Ytmlhekfkniibmaa.Ord
open Go Go.Proofs.Ytmlhekfkniibmaa.AX Go.Proofs.Ytmlhekfkniibmaa
variable {sb : Bool}

end Go.Proofs.Ytmlhekfkniibmaa.Ord

/- Sorting numbers (Sort3). -/
namespace Go.Proofs.Ytmlhekfkniibmaa.Ord
open Go Go.Proofs.Ytmlhekfkniibmaa.AX Go.Proofs.Ytmlhekfkniibmaa
variable {sb : Bool}

end Go.Proofs.Ytmlhekfkniibmaa.Ord

/- Sorting numbers (Part). -/
namespace Go.Proofs.Ytmlhekfkniibmaa.Ord
open Go Go.Proofs.Ytmlhekfkniibmaa.AX Go.Proofs.Ytmlhekfkniibmaa
variable {sb : Bool}

end Go.Proofs.Ytmlhekfkniibmaa.Ord

/- Sorting numbers (Part2). -/
namespace Go.Proofs.Ytmlhekfkniibmaa.Ord
open Go Go.Proofs.Ytmlhekfkniibmaa.AX Go.Proofs.Ytmlhekfkniibmaa
variable {sb : Bool}

end Go.Proofs.Ytmlhekfkniibmaa.Ord

/- Sorting numbers (Heap). -/
namespace Go.Proofs.Ytmlhekfkniibmaa.Ord
open Go Go.Proofs.Ytmlhekfkniibmaa.AX Go.Proofs.Ytmlhekfkniibmaa
variable {sb : Bool}

end Go.Proofs.Ytmlhekfkniibmaa.Ord

/- Sorting numbers (Heap2). -/
namespace Go.Proofs.Ytmlhekfkniibmaa.Ord
open Go Go.Proofs.Ytmlhekfkniibmaa.AX Go.Proofs.Ytmlhekfkniibmaa
variable {sb : Bool}

end Go.Proofs.Ytmlhekfkniibmaa.Ord

/- Sorting numbers (Brk). -/
namespace Go.Proofs.Ytmlhekfkniibmaa.Ord
open Go Go.Proofs.Ytmlhekfkniibmaa.AX Go.Proofs.Ytmlhekfkniibmaa
variable {sb : Bool}

end Go.Proofs.Ytmlhekfkniibmaa.Ord

/- Sorting numbers (Pins). -/
namespace Go.Proofs.Ytmlhekfkniibmaa.Ord
open Go Go.Proofs.Ytmlhekfkniibmaa.AX Go.Proofs.Ytmlhekfkniibmaa
variable {sb : Bool}

end Go.Proofs.Ytmlhekfkniibmaa.Ord

/- Sorting numbers (Pdq). -/
namespace Go.Proofs.Ytmlhekfkniibmaa.Ord
open Go Go.Proofs.Ytmlhekfkniibmaa.AX Go.Proofs.Ytmlhekfkniibmaa
variable {sb : Bool}

end Go.Proofs.Ytmlhekfkniibmaa.Ord

/- slices.Sort of a part of a row; slices.Equal. -/
namespace Go.Proofs.Ytmlhekfkniibmaa
open Go Go.Proofs.Ytmlhekfkniibmaa.AX
variable {sb : Bool}
theorem ordS_perm (k : Nat) : ∀ (m : Nat) (l : List Int), l.length = m → (ordS k m l).Perm l
  | 0, l, h => by rw [List.eq_nil_of_length_eq_zero h]; exact .refl _
  | m + 1, l, h => by
    have hlt : (k - 1) % (m + 1) < l.length := by rw [h]; exact Nat.mod_lt _ (by omega)
    simp only [ordS]
    exact (List.Perm.cons _ (ordS_perm k m _ (by rw [rot_len hlt]; omega))).trans (rot_perm hlt)
theorem orderS_perm (n k : Nat) : (orderS n k).Perm (allS n) := ordS_perm k n _ (allS_len n)
end Go.Proofs.Ytmlhekfkniibmaa

/- One roller more; counts of 1 and 2. -/
namespace Go.Proofs.Ytmlhekfkniibmaa
open Go Go.Proofs.Ytmlhekfkniibmaa.AX

theorem g_map {f : Int → Int} {l : List Int} {i : Nat} (h : i < l.length) : g (l.map f) i = f (g l i) := by
  rw [g_lt (by simpa using h), g_lt h]; simp
end Go.Proofs.Ytmlhekfkniibmaa

/- The smallest count that fits. -/
namespace Go.Proofs.Ytmlhekfkniibmaa
open Go Go.Proofs.Ytmlhekfkniibmaa.AX

/-- A function that says whether a count fits, as long as what was there stays. -/
def FitsC (f : FuncId) (caps : List AV) (P : Nat → Prop) [DecidablePred P] (H : AH) : Prop :=
  okFn Try.prog f = true ∧ ∀ k H', 1 ≤ k → k ≤ 1000 → Ext H H' → ∀ Q : AV → AH → Prop, (∀ H'', Ext H' H'' → Q (.bool (decide (P k))) H'') → AC Try.prog f ([] ++ [.int .i64 k] ++ caps) H' Q
/-- The smallest count up to 1000 with P, or none. -/
def minQ (P : Nat → Prop) (Q : AV → AH → Prop) (H : AH) : Prop :=
  (∀ k : Nat, 1 ≤ k → k ≤ 1000 → P k → (∀ j, 1 ≤ j → j < k → ¬ P j) → Q (.tuple [.int .i64 k, .int .i64 0]) H) ∧ ((∀ j, 1 ≤ j → j ≤ 1000 → ¬ P j) → Q (.tuple [.int .i64 0, .int .i64 12]) H)
/-- Who stays last is x. -/
def LastIs (n : Nat) (x : Int) (k : Nat) : Prop := g (orderS n k) (n - 1) = x
instance (n : Nat) (x : Int) : DecidablePred (LastIs n x) := fun k => by unfold LastIs; infer_instance
/-- What Smallest is asked. -/
def smallQ (n x : Int) (H : AH) (Q : AV → AH → Prop) : Prop :=
  ((1 ≤ n ∧ n ≤ 20) ∧ (0 ≤ x ∧ x < n) → minQ (LastIs n.toNat x) Q H) ∧ ((1 ≤ n ∧ n ≤ 20) ∧ ¬ (0 ≤ x ∧ x < n) → Q (.tuple [.int .i64 0, .int .i64 2]) H) ∧ (¬ (1 ≤ n ∧ n ≤ 20) → Q (.tuple [.int .i64 0, .int .i64 1]) H)
end Go.Proofs.Ytmlhekfkniibmaa

/- Some go first: the smallest count. -/
namespace Go.Proofs.Ytmlhekfkniibmaa
open Go Go.Proofs.Ytmlhekfkniibmaa.AX

def homI (n : Int) (l : List Int) : Nat → Nat → Int
  | 0, _ => 0
  | m + 1, i => if 0 ≤ g l i ∧ g l i < n then (if 0 < i ∧ g l i ≤ g l (i - 1) then 7 else homI n l m (i + 1)) else 2
def homeE (n : Int) (l : List Int) : Int := if 1 ≤ n ∧ n ≤ 20 then homI n l l.length 0 else 1
/-- The first ones of the order are all in a list. -/
def FirstIs (n : Nat) (l : List Int) (k : Nat) : Prop := ∀ x ∈ (orderS n k).take l.length, x ∈ l
instance (n : Nat) (l : List Int) : DecidablePred (FirstIs n l) := fun k => by unfold FirstIs; infer_instance
/-- What First is asked. -/
def firstQ (n : Int) (l : List Int) (H : AH) (Q : AV → AH → Prop) : Prop :=
  (homeE n l = 0 → minQ (FirstIs n.toNat l) Q H) ∧ (homeE n l ≠ 0 → Q (.tuple [.int .i64 0, .int .i64 (homeE n l)]) H)
end Go.Proofs.Ytmlhekfkniibmaa

/- BenchGrown, walked. -/
namespace Go.Proofs.Ytmlhekfkniibmaa
open Go Go.Proofs.Ytmlhekfkniibmaa.AX
theorem okB_mk {n k : Nat} (h1 : 1 ≤ n) (h2 : n ≤ 20) (h3 : 1 ≤ k) (h4 : k ≤ 1000000000) : okB n k := ⟨by omega, by omega⟩
theorem OrderN_ac (n k : Nat) (h1 : 1 ≤ n) (h2 : n ≤ 20) (h3 : 1 ≤ k) (h4 : k ≤ 1000000000) (H : AH) (Q : AV → AH → Prop) (h : ∀ v H', OwnF H.length H' v ((orderS n k).map (.int .i64)) → Ext H H' → Q (.tuple [v, .int .i64 0]) H') : AC Try.prog 13 [.int .i64 n, .int .i64 k] H Q := by
  refine Order_ac n k H Q ?_
  have hk := okB_mk h1 h2 h3 h4
  rw [benchE_ok hk]
  unfold orderP
  rw [if_pos hk, Int.toNat_natCast, Int.toNat_natCast]
  exact h
end Go.Proofs.Ytmlhekfkniibmaa

/- Two counts that go around the other way; remainders of an order's count. -/
namespace Go.Proofs.Ytmlhekfkniibmaa
open Go Go.Proofs.Ytmlhekfkniibmaa.AX

end Go.Proofs.Ytmlhekfkniibmaa

/- The reference's First; BenchTried, walked. -/
namespace Go.Proofs.Ytmlhekfkniibmaa
open Go Go.Proofs.Ytmlhekfkniibmaa.AX
/-- What a search finds. -/
noncomputable def minV (P : Nat → Prop) : Int × Int :=
  open Classical in
  if h : ∃ k, (1 ≤ k ∧ k ≤ 1000 ∧ P k) ∧ ∀ j, 1 ≤ j → j < k → ¬ P j then ((Classical.choose h : Nat), 0) else (0, 12)
noncomputable def smallV (n x : Int) : Int × Int := if 1 ≤ n ∧ n ≤ 20 then (if 0 ≤ x ∧ x < n then minV (LastIs n.toNat x) else (0, 2)) else (0, 1)
noncomputable def firstV (n : Int) (l : List Int) : Int × Int := if homeE n l = 0 then minV (FirstIs n.toNat l) else (0, homeE n l)
end Go.Proofs.Ytmlhekfkniibmaa

/- What a law's numbers are. -/
namespace Go.Proofs.Ytmlhekfkniibmaa
open Go Go.Proofs.Ytmlhekfkniibmaa.AX Go.RowKit
theorem u8_of {a : Int} (w : (Lit.int .u8 a).wf = true) : ∃ n : Nat, a = n ∧ n < 256 := by
  have h : IntKind.u8.min ≤ a ∧ a ≤ IntKind.u8.max := by simpa [Lit.wf] using w
  have h1 : IntKind.u8.min = 0 := rfl
  have h2 : IntKind.u8.max = 255 := rfl
  exact ⟨a.toNat, by omega, by omega⟩
end Go.Proofs.Ytmlhekfkniibmaa

/- Lists by what is read of them; one is deleted; those who sit, by a place. -/
namespace Go.Proofs.Ytmlhekfkniibmaa
open Go Go.Proofs.Ytmlhekfkniibmaa.AX

theorem ls_len {H : AH} {v : AV} {l : List Int} (h : Ls H v l) : aLen Try.prog 22 v = some (.int .i64 l.length) := by
  obtain ⟨r, off, ver, sz, full, rfl, -⟩ := h
  exact len22 ..
theorem ls_ix {H : AH} {v : AV} {l : List Int} (h : Ls H v l) {i : Nat} (hi : i < l.length) : ∃ r p ver, (∀ k, aIndexAddr Try.prog 22 v (.int k (i : Int)) = some (.ptr r p ver)) ∧ ld H r p ver = some (.int .i64 (g l i)) := by
  obtain ⟨r, off, ver, sz, full, rfl, hld⟩ := h
  obtain ⟨r', rfl, rfl, hx⟩ := hld i hi
  rw [← g_lt hi] at hx
  exact ⟨r', off + i, ver, fun k => by simp [hi], hx⟩
theorem ls_hi {H : AH} {v : AV} {l : List Int} (h : Ls H v l) (h0 : 0 < l.length) {m : Nat} (hm : m ≤ l.length) : ∃ u, aSlice Try.prog 22 v none (some (.int .i64 (m : Int))) none = some u ∧ Ls H u (l.take m) := by
  obtain ⟨r, off, ver, sz, full, rfl, hsz, hsub⟩ := h.sub
  obtain rfl := hsz (by intro e; rw [e] at h0; simp at h0)
  have h2 := hsub 0 m (full && m == l.length) (by omega) hm
  rw [Nat.sub_zero, List.drop_zero] at h2
  exact ⟨_, slice_hi slz22 r off _ ver full hm, h2⟩
theorem un22 : ∃ e ie, Try.prog.underlying 22 = some (.slice e) ∧ Try.prog.info? e = some ie ∧ ie.size = 1 := by
  have h := slz22
  unfold slSz at h
  split at h
  case h_2 => cases h
  rename_i e he
  cases hi : Try.prog.info? e with
  | none => rw [hi] at h; cases h
  | some ie => rw [hi] at h; exact ⟨e, ie, he, hi, Option.some.inj h⟩
theorem more (H : AH) (r ver n s : Nat) (cells : List AV) (hr : H[r]? = some (.row cells ver s false)) (hn : 0 < n) (hc : n ≤ cells.length) :
    aSlice Try.prog 22 (.slice (some r) 0 (n - 1) ver 1 false) (some (.int .i64 ((n - 1 : Nat) : Int))) (some (.int .i64 (n : Int))) none = none ∧
    sliceR Try.prog 22 H (.slice (some r) 0 (n - 1) ver 1 false) (some (.int .i64 ((n - 1 : Nat) : Int))) (some (.int .i64 (n : Int))) none = some (.slice (some r) (n - 1) 1 ver 1 false) := by
  obtain ⟨e, ie, h1, h2, h3⟩ := un22
  have hb : aBounds (n - 1) (some (.int .i64 ((n - 1 : Nat) : Int))) (some (.int .i64 (n : Int))) none = none := by
    have : ¬ ((n : Int) ≤ ((n - 1 : Nat) : Int)) := by omega
    simp [aBounds, aBound]
    omega
  have hb2 : aBounds ((cells.length - 0) / 1) (some (.int .i64 ((n - 1 : Nat) : Int))) (some (.int .i64 (n : Int))) none = some (n - 1, n, (cells.length - 0) / 1) := by
    have h4 : (n : Int) ≤ (cells.length : Int) := by omega
    have h5 : ((n - 1 : Nat) : Int) ≤ (n : Int) := by omega
    simp only [aBounds, aBound, Nat.sub_zero, Nat.div_one, Option.bind_some]
    rw [if_pos ⟨by omega, h4⟩, Option.bind_some, if_pos ⟨by omega, by rw [Int.toNat_natCast]; exact h5⟩, Option.bind_some, Int.toNat_natCast, Int.toNat_natCast]
  constructor
  · simp only [aSlice, h1, h2, h3, if_true, hb, Option.map_none]
  · simp only [sliceR, h1, h2, h3, hr]
    rw [if_pos ⟨trivial, trivial, by omega, rfl, trivial⟩, hb2]
    simp
    omega
/-- Who sits, from a place on. -/
def rotL (s : List Int) (a : Nat) : List Int := s.drop a ++ s.take a
theorem rotL_len {s : List Int} {a : Nat} (h : a ≤ s.length) : (rotL s a).length = s.length := by simp [rotL]; omega
/-- What a search has found before a count. -/
def LV (P : Nat → Prop) (k v : Nat) : Prop := (v = 0 ∧ ∀ j, 1 ≤ j → j < k → ¬ P j) ∨ (1 ≤ v ∧ v < k ∧ P v ∧ ∀ j, 1 ≤ j → j < v → ¬ P j)
end Go.Proofs.Ytmlhekfkniibmaa

/- Rollers counted one by one: what the counting leaves (no program here). -/
namespace Go.Proofs.Ytmlhekfkniibmaa
open Go Go.Proofs.Ytmlhekfkniibmaa.AX

/-- Counts of one round, step by step. -/
def Tn (L : List Int) (T : Int → Nat) : Nat → Int → Nat
  | 0 => T
  | j + 1 => fun x => if x = g L (j % L.length) then Tn L T j x + 1 else Tn L T j x
def simT (k : Nat) : Nat → List Int → (Int → Nat) → Int → Nat
  | 0, _, T => T
  | m + 1, L, T => simT k m (rot L ((k - 1) % (m + 1))) (Tn L T k)
/-- Who sits after some counts, from the next one on. -/
theorem rotL_step {L : List Int} {b : Nat} (hb : b < L.length) : rotL L ((b + 1) % L.length) = (rotL L b).tail ++ [g L b] := by
  have hc : (b + 1) % L.length < L.length := Nat.mod_lt _ (by omega)
  have h1 : rotL L b = g L b :: (L.drop (b + 1) ++ L.take b) := by
    unfold rotL
    rw [List.drop_eq_getElem_cons hb, g_lt hb]; rfl
  rw [h1, List.tail_cons, List.append_assoc]
  have h2 : L.take b ++ [g L b] = L.take (b + 1) := by rw [g_lt hb]; simp
  rw [h2]
  by_cases e : b + 1 = L.length
  · rw [e, Nat.mod_self]
    simp [rotL]
  · rw [Nat.mod_eq_of_lt (by omega)]; rfl
theorem rotL_head {L : List Int} {b : Nat} (hb : b < L.length) : rotL L b = g L b :: (rotL L b).tail := by
  unfold rotL
  rw [List.drop_eq_getElem_cons hb, g_lt hb]; rfl
/-- Who sits longer is not counted much less. -/
def Bal (T : Int → Nat) (L : List Int) : Prop := L.Pairwise fun x y => T x ≤ T y ∧ T y ≤ T x + 1
theorem rotL_perm {L : List Int} {b : Nat} : (rotL L b).Perm L := by
  unfold rotL
  have h := (List.perm_append_comm : (L.drop b ++ L.take b).Perm (L.take b ++ L.drop b))
  rwa [List.take_append_drop] at h
theorem rot_last {L : List Int} {k m : Nat} (hl : L.length = m + 1) (hk : 1 ≤ k) : rotL L (k % (m + 1)) = rot L ((k - 1) % (m + 1)) ++ [g L ((k - 1) % (m + 1))] := by
  have ha : (k - 1) % (m + 1) < L.length := by rw [hl]; exact Nat.mod_lt _ (by omega)
  have := rotL_step ha
  rw [hl, Nat.mod_add_mod, show k - 1 + 1 = k by omega] at this
  rw [this]
  congr 1
  unfold rotL rot
  rw [List.drop_eq_getElem_cons ha]; rfl
/-- A sum over the rollers. -/
def sumN (T : Int → Nat) (l : List Int) : Nat := (l.map T).sum
def TF (n k : Nat) : Int → Nat := simT k n (allS n) fun _ => 0
/-! ### Who is next around the bench -/
def cyc (n c : Nat) : List Int := rotL (allS n) c
/-- A list has its members in their order around the bench, from c on. -/
def Cyc (n c : Nat) (L : List Int) : Prop := L = (cyc n c).filter fun x => decide (x ∈ L)
theorem cyc_head {n c : Nat} (hc : c < n) : cyc n c = (c : Int) :: (cyc n c).tail := by
  have := rotL_head (L := allS n) (b := c) (by rw [allS_len]; exact hc)
  rw [g_all hc] at this
  exact this
theorem cyc_next {n c : Nat} (hc : c < n) : cyc n ((c + 1) % n) = (cyc n c).tail ++ [(c : Int)] := by
  have := rotL_step (L := allS n) (b := c) (by rw [allS_len]; exact hc)
  rw [allS_len, g_all hc] at this
  exact this
theorem Cyc.start (n : Nat) : Cyc n 0 (allS n) := by
  unfold Cyc cyc
  have : rotL (allS n) 0 = allS n := by simp [rotL]
  rw [this]
  exact (List.filter_eq_self.2 fun x hx => by simpa using hx).symm
theorem Cyc.skip {n c : Nat} {L : List Int} (h : Cyc n c L) (hc : c < n) (hn : (c : Int) ∉ L) : Cyc n ((c + 1) % n) L := by
  unfold Cyc at h ⊢
  rw [cyc_head hc, List.filter_cons, if_neg (by simpa using hn)] at h
  rw [cyc_next hc, List.filter_append]
  have : [(c : Int)].filter (fun x => decide (x ∈ L)) = [] := by simp [hn]
  rw [this, List.append_nil]
  exact h
theorem Cyc.head {n c : Nat} {L : List Int} (h : Cyc n c L) (hc : c < n) (hm : (c : Int) ∈ L) : ∃ M, L = (c : Int) :: M ∧ Cyc n ((c + 1) % n) (M ++ [(c : Int)]) := by
  unfold Cyc at h
  have h2 := h
  rw [cyc_head hc, List.filter_cons, if_pos (by simpa using hm)] at h2
  refine ⟨_, h2, ?_⟩
  have hmem : ∀ y, y ∈ (List.filter (fun x => decide (x ∈ L)) (cyc n c).tail) ++ [(c : Int)] ↔ y ∈ L := by
    intro y
    conv => rhs; rw [h2]
    rw [List.mem_append, List.mem_singleton, List.mem_cons]
    exact Or.comm
  unfold Cyc
  simp only [hmem]
  rw [cyc_next hc, List.filter_append]
  have : [(c : Int)].filter (fun x => decide (x ∈ L)) = [(c : Int)] := by simp [hm]
  rw [this]
theorem Cyc.drop {n c : Nat} {M : List Int} {x : Int} (h : Cyc n c (M ++ [x])) (hd : (M ++ [x]).Nodup) : Cyc n c M := by
  have hx : x ∉ M := fun hm => (List.pairwise_append.1 hd).2.2 x hm x (by simp) rfl
  unfold Cyc at h ⊢
  have e1 : M = (M ++ [x]).filter fun y => decide (y ∈ M) := by
    rw [List.filter_append]
    have h1 : M.filter (fun y => decide (y ∈ M)) = M := List.filter_eq_self.2 fun y hy => by simpa using hy
    have h2 : [x].filter (fun y => decide (y ∈ M)) = [] := by simp [hx]
    rw [h1, h2, List.append_nil]
  conv => lhs; rw [e1, h]
  rw [List.filter_filter]
  congr 1
  funext y
  by_cases hy : y ∈ M <;> simp [hy]
/-- How far away the next one sits. -/
def far (n c : Nat) (L : List Int) : Nat := (cyc n c).findIdx fun x => decide (x ∈ L)
theorem far_skip {n c : Nat} {L : List Int} (h : Cyc n c L) (hc : c < n) (hn : (c : Int) ∉ L) (hne : L ≠ []) : far n ((c + 1) % n) L < far n c L := by
  unfold far
  rw [cyc_next hc]
  conv => rhs; rw [cyc_head hc]
  rw [List.findIdx_cons]
  have : decide ((c : Int) ∈ L) = false := by simpa using hn
  rw [this, cond_false]
  have hex : ∃ x ∈ (cyc n c).tail, decide (x ∈ L) = true := by
    obtain ⟨x, hx⟩ := List.exists_mem_of_ne_nil L hne
    unfold Cyc at h
    have h2 := hx
    rw [h, List.mem_filter, cyc_head hc, List.mem_cons] at h2
    rcases h2.1 with e | e
    · rw [e] at hx; exact absurd hx hn
    · exact ⟨x, e, by simpa using hx⟩
  have hlt := List.findIdx_lt_length.2 hex
  rw [List.findIdx_append, if_pos hlt]
  omega
end Go.Proofs.Ytmlhekfkniibmaa

/- Rollers counted one by one, as the law does it. -/
namespace Go.Proofs.Ytmlhekfkniibmaa
open Go Go.Proofs.Ytmlhekfkniibmaa.AX

def gl (n : Nat) (L : List Int) : List AV := (List.range n).map fun r : Nat => AV.bool (decide ((r : Int) ∉ L))
theorem gl_get {n : Nat} {L : List Int} {c : Nat} (h : c < n) : (gl n L)[c]? = some (.bool (decide ((c : Int) ∉ L))) := by simp [gl, h]
theorem gl_set {n : Nat} {L M : List Int} {c : Nat} (hc : (c : Int) ∉ M) (h : ∀ x, x ∈ L ↔ x = (c : Int) ∨ x ∈ M) : (gl n L).set c (.bool true) = gl n M := by
  apply List.ext_getElem?
  intro i
  rw [List.getElem?_set]
  by_cases e : c = i
  · subst e
    by_cases h1 : c < n
    · rw [if_pos rfl, if_pos (by simpa [gl] using h1), gl_get h1]; simp [hc]
    · rw [if_pos rfl, if_neg (by simpa [gl] using h1)]; simp [gl, h1]
  · rw [if_neg e]
    by_cases h1 : i < n
    · rw [gl_get h1, gl_get h1]
      have : (i : Int) ∈ L ↔ (i : Int) ∈ M := by
        rw [h]
        constructor
        · rintro (h2 | h2)
          · exact absurd (by omega) e
          · exact h2
        · exact .inr
      simp only [this]
    · simp [gl, h1]
def tl (n : Nat) (T : Int → Nat) : List Int := (allS n).map fun x => ((T x : Nat) : Int)
theorem tl_len (n : Nat) (T : Int → Nat) : (tl n T).length = n := by simp [tl, allS_len]
theorem tl_g {n : Nat} {T : Int → Nat} {c : Nat} (h : c < n) : g (tl n T) c = ((T c : Nat) : Int) := by
  unfold tl
  rw [g_map (by rw [allS_len]; exact h), g_all h]
theorem tl_set {n : Nat} {T : Int → Nat} {c : Nat} (h : c < n) : (tl n T).set c ((T c + 1 : Nat) : Int) = tl n (fun x => if x = (c : Int) then T x + 1 else T x) := by
  apply g_ext (by simp [tl_len])
  intro i hi
  simp [tl_len] at hi
  rw [g_set (by rw [tl_len]; exact h), tl_g hi, tl_g hi]
  by_cases e : i = c
  · subst e; simp
  · rw [if_neg e, if_neg (by omega)]
theorem tn_le {L : List Int} {T : Int → Nat} {x : Int} {B : Nat} (h : T x ≤ B) : ∀ j, Tn L T j x ≤ B + j
  | 0 => h
  | j + 1 => by
    have := tn_le (L := L) h j
    simp only [Tn]
    split <;> omega
set_option maxRecDepth 100000 in
set_option maxHeartbeats 4000000 in
theorem counts_ac (n k : Nat) (h1 : 1 ≤ n) (h2 : n ≤ 1000) (h3 : 1 ≤ k) (h4 : k ≤ 1000000000) (H : AH) (Q : AV → AH → Prop)
    (h : ∀ v w H', OwnF (H.length + 2) H' v ((orderS n k).map (.int .i64)) → OwnF H.length H' w ((tl n (TF n k)).map (.int .i64)) → Ext H H' → Q (.tuple [v, w]) H') : AC Try.prog 38 [.int .i64 n, .int .i64 k] H Q := by
  refine L_body 49 Try.func38 rfl rfl ?_
  have z1 : tl n (fun _ => 0) = List.replicate n 0 := by
    apply g_ext (by simp [tl_len])
    intro i hi
    rw [tl_len] at hi
    rw [tl_g hi, g_lt (by simpa using hi)]; simp
  have z2 : gl n (allS n) = List.replicate n (AV.bool false) := by
    apply List.ext_getElem?
    intro i
    by_cases hi : i < n
    · rw [gl_get hi]
      have : (i : Int) ∈ allS n := mem_allS.2 (by omega)
      simp [this, hi]
    · simp [gl, hi]
  refine L_reg [0, 1, 4] (fun K hK => ?_)
  simp
  apply hK; clear hK K
  refine L_reg [0, 1, 4, 5] (fun K hK => ?_)
  simp [make_z elz22 (show n ≤ 16777216 by omega)]
  apply hK; clear hK K
  refine L_reg [0, 1, 4, 5, 6] (fun K hK => ?_)
  simp [make_z elz70 (show n ≤ 16777216 by omega)]
  apply hK; clear hK K
  have hT0 : Rw H.length 0 (H ++ [AObj.row (List.replicate n (AV.int .i64 0)) 0 0 false, AObj.row (List.replicate n (AV.bool false)) 0 0 false]) (tl n fun _ => 0) := by
    rw [z1]; exact ⟨0, by simp⟩
  have hG0 : (H ++ [AObj.row (List.replicate n (AV.int .i64 0)) 0 0 false, AObj.row (List.replicate n (AV.bool false)) 0 0 false])[H.length + 1]? = some (.row (gl n (allS n)) 0 0 false) := by
    rw [z2]; simp
  have hE0 : Ext H (H ++ [AObj.row (List.replicate n (AV.int .i64 0)) 0 0 false, AObj.row (List.replicate n (AV.bool false)) 0 0 false]) := .push _ _
  have hl0 : (H ++ [AObj.row (List.replicate n (AV.int .i64 0)) 0 0 false, AObj.row (List.replicate n (AV.bool false)) 0 0 false]).length = H.length + 2 := by simp
  generalize H ++ [AObj.row (List.replicate n (AV.int .i64 0)) 0 0 false, AObj.row (List.replicate n (AV.bool false)) 0 0 false] = H0 at hT0 hG0 hE0 hl0 ⊢
  clear z1 z2
  obtain ⟨p, hp⟩ : ∃ p, p = H.length := ⟨_, rfl⟩
  rw [← hp] at hT0 hG0 hl0 h ⊢
  have hn1 : (n : Int) - 1 = ((n - 1 : Nat) : Int) := by omega
  have hn0 : n ≠ 0 := by omega
  refine L_reg [0, 1, 4, 5, 6, 7] (fun K hK => ?_)
  simp [hn1, wrap_i64 (a := ((n - 1 : Nat) : Int)) (by omega)]
  apply hK; clear hK K
  refine L_reg [0, 1, 4, 5, 6, 7, 14, 15] (fun K hK => ?_)
  simp
  apply hK; clear hK K
  refine L_block (L_loopV [4, 7, 15] (fun q vs H' => ∃ (i at' st : Nat) (L o : List Int) (T : Int → Nat) (v : AV), q = n - i ∧ i ≤ n ∧ at' < n ∧ L.length = n - i ∧ L.Nodup ∧ (∀ x ∈ L, 0 ≤ x ∧ x < n) ∧ Cyc n ((at' + 1) % n) L ∧ o ++ ordS k (n - i) L = orderS n k ∧ o.length = i ∧ simT k (n - i) L T = TF n k ∧ (∀ x, T x ≤ i * k) ∧ vs = [v, .int .i64 at', .int .i64 i] ∧ H'[p + 1]? = some (.row (gl n L) 0 st false) ∧ Rw p 0 H' (tl n T) ∧ OwnF (p + 2) H' v (o.map (.int .i64)) ∧ Ext H H' ∧ p + 2 ≤ H'.length) n [.slice none 0 0 0 1 false, .int .i64 ((n - 1 : Nat) : Int), .int .i64 0] rfl ⟨0, n - 1, 0, allS n, [], (fun _ => 0), _, rfl, by omega, by omega, allS_len n, allS_nodup n, fun x hx => mem_allS.1 hx, by rw [show n - 1 + 1 = n by omega, Nat.mod_self]; exact Cyc.start n, rfl, rfl, rfl, fun x => Nat.zero_le _, rfl, hG0, hT0, .nil _ _, hE0, by omega⟩ ?_)
  rintro q _ H1 ⟨i, at', st, L, o, T, v, rfl, hi, hat, hLl, hLd, hLm, hC, hord, hol, hsim, hTb, rfl, hG, hT, hO, hE, hlen⟩
  refine L_reg [0, 1, 4, 5, 6, 7, 14, 15, 16] (fun K hK => ?_)
  simp
  apply hK; clear hK K
  refine L_dec (i < n) (by simp) (fun hlt => ?_) (fun hge => L_exit ?_)
  · refine L_block ?_
    obtain ⟨m, hm⟩ : ∃ m, n - i = m + 1 := ⟨n - i - 1, by omega⟩
    rw [hm] at hLl hord hsim
    simp only [ordS] at hord
    simp only [simT] at hsim
    have hik : i * k ≤ 1000 * 1000000000 := Nat.mul_le_mul (by omega) h4
    refine L_reg [0, 1, 4, 5, 6, 7, 14, 15, 17, 18] (fun K hK => ?_)
    simp
    apply hK; clear hK K
    refine L_block (L_loopV [7, 18] (fun q vs H' => ∃ (j b : Nat), q = k - j ∧ j ≤ k ∧ b < n ∧ Cyc n ((b + 1) % n) (rotL L (j % (m + 1))) ∧ (0 < j → (b : Int) = g L ((j - 1) % (m + 1))) ∧ vs = [.int .i64 b, .int .i64 j] ∧ Rw p 0 H' (tl n (Tn L T j)) ∧ KeepX p H1 H') _ [.int .i64 at', .int .i64 0] rfl ⟨0, at', rfl, by omega, hat, by rw [Nat.zero_mod]; simpa [rotL] using hC, fun h => by omega, rfl, hT, .refl _ _⟩ ?_)
    rintro q _ H2 ⟨j, b, rfl, hj, hb, hCj, hbl, rfl, hT2, hK2⟩
    have hG2 : H2[p + 1]? = some (.row (gl n L) 0 st false) := hK2.row (by omega) hG
    refine L_reg [0, 1, 4, 5, 6, 7, 14, 15, 17, 18, 19] (fun K hK => ?_)
    simp
    apply hK; clear hK K
    refine L_dec (j < k) (by simp) (fun hjk => ?_) (fun hge => L_exit ?_)
    · refine L_block ?_
      have em := tmod_nat (b + 1) n
      push_cast at em
      obtain ⟨c, hc⟩ : ∃ c, c = (b + 1) % n := ⟨_, rfl⟩
      have hcn : c < n := by rw [hc]; exact Nat.mod_lt _ (by omega)
      have em2 : ((b : Int) + 1).tmod (n : Int) = (c : Int) := by rw [em, hc]; rfl
      rw [← hc] at hCj
      refine L_reg [0, 1, 4, 5, 6, 7, 14, 15, 17, 18] (fun K hK => ?_)
      simp [wrap_i64 (a := (b : Int) + 1) (by omega), hn0, em2]
      apply hK; clear hK K
      have hmemj : ∀ x, x ∈ rotL L (j % (m + 1)) ↔ x ∈ L := fun x => rotL_perm.mem_iff
      have hLjn : rotL L (j % (m + 1)) ≠ [] := by
        intro e
        have h9 := rotL_len (s := L) (a := j % (m + 1)) (by rw [hLl]; exact Nat.le_of_lt (Nat.mod_lt _ (by omega)))
        rw [e] at h9
        simp only [List.length_nil] at h9; omega
      refine L_block (L_loopV [7] (fun q vs H' => ∃ c : Nat, q = far n c (rotL L (j % (m + 1))) ∧ c < n ∧ Cyc n c (rotL L (j % (m + 1))) ∧ vs = [.int .i64 c] ∧ H2 = H') _ [.int .i64 c] rfl ⟨c, rfl, hcn, hCj, rfl, rfl⟩ ?_)
      clear em em2 hc hCj
      rintro q _ _ ⟨c, rfl, hcn, hCc, rfl, rfl⟩
      have hlg : ld H2 (p + 1) c 0 = some (.bool (decide ((c : Int) ∉ L))) := by rw [ld_row hG2, gl_get hcn]; rfl
      refine L_reg [0, 1, 4, 5, 6, 7, 14, 15, 17, 18, 27] (fun K hK => ?_)
      simp [hcn, hlg]
      apply hK; clear hK K
      by_cases hcL : (c : Int) ∈ L
      · refine L_false (by simp [hcL]) (L_exit ?_)
        obtain ⟨M, hM1, hM2⟩ := hCc.head hcn ((hmemj _).2 hcL)
        have hjm := Nat.mod_lt j (show 0 < m + 1 by omega)
        have hgh := rotL_head (L := L) (b := j % (m + 1)) (by rw [hLl]; exact hjm)
        have hgc : (c : Int) = g L (j % (m + 1)) := by
          have h5 := hM1.symm.trans hgh
          exact (List.cons.inj h5).1
        have hMt : M = (rotL L (j % (m + 1))).tail := by rw [hM1]; rfl
        have hst := rotL_step (L := L) (b := j % (m + 1)) (by rw [hLl]; exact hjm)
        rw [hLl, Nat.mod_add_mod, ← hMt, ← hgc] at hst
        rw [← hst] at hM2
        have hTc := tl_g (T := Tn L T j) hcn
        have hle := tn_le (L := L) (hTb (c : Int)) j
        obtain ⟨y, hy⟩ : ∃ y, y = Tn L T j (c : Int) := ⟨_, rfl⟩
        obtain ⟨H3, e1, e2, e3⟩ := hT2.put (i := c) (by rw [tl_len]; exact hcn) ((Tn L T j (c : Int) + 1 : Nat) : Int)
        have hl2 := hT2.ld (i := c) (by rw [tl_len]; exact hcn)
        rw [hTc, ← hy] at hl2
        have hset : (tl n (Tn L T j)).set c ((Tn L T j (c : Int) + 1 : Nat) : Int) = tl n (Tn L T (j + 1)) := by
          rw [tl_set hcn]
          congr 1
          funext x
          simp only [Tn, hLl, hgc]
        rw [hset] at e2
        rw [← hy] at e1 hle
        push_cast at e1
        refine L_reg [0, 1, 4, 5, 6, 7, 14, 15, 17, 18] (fun K hK => ?_)
        simp [hcn, hl2, wrap_i64 (a := (y : Int) + 1) (by omega), e1]
        apply hK; clear hK K
        refine L_reg [0, 1, 4, 5, 6, 7, 14, 15, 17, 18] (fun K hK => ?_)
        simp [wrap_i64 (a := (j : Int) + 1) (by omega)]
        apply hK; clear hK K
        exact ⟨k - (j + 1), [.int .i64 c, .int .i64 (j + 1 : Nat)], by omega, by simp, j + 1, c, rfl, by omega, hcn, hM2, fun _ => by rw [Nat.add_sub_cancel]; exact hgc, rfl, e2, hK2.trans e3⟩
      · refine L_true (by simp [hcL]) (L_block ?_)
        have hcj : (c : Int) ∉ rotL L (j % (m + 1)) := fun e => hcL ((hmemj _).1 e)
        have em := tmod_nat (c + 1) n
        push_cast at em
        have hf := far_skip hCc hcn hcj hLjn
        have hCs := hCc.skip hcn hcj
        obtain ⟨d, hd⟩ : ∃ d, d = (c + 1) % n := ⟨_, rfl⟩
        have hdn : d < n := by rw [hd]; exact Nat.mod_lt _ (by omega)
        have em2 : ((c : Int) + 1).tmod (n : Int) = (d : Int) := by rw [em, hd]; rfl
        rw [← hd] at hf hCs
        refine L_reg [0, 1, 4, 5, 6, 7, 14, 15, 17, 18] (fun K hK => ?_)
        simp [wrap_i64 (a := (c : Int) + 1) (by omega), hn0, em2]
        apply hK; clear hK K
        exact ⟨_, [.int .i64 d], hf, by simp, d, rfl, hdn, hCs, rfl, rfl⟩
    · have hjk : j = k := by omega
      subst hjk
      have hbg := hbl (by omega)
      have ha : (j - 1) % (m + 1) < L.length := by rw [hLl]; exact Nat.mod_lt _ (by omega)
      have hlast := rot_last hLl h3
      rw [← hbg] at hlast hord
      have hnd := rot_nodup ha hLd
      rw [← hbg] at hnd
      have hperm : (rot L ((j - 1) % (m + 1)) ++ [(b : Int)]).Nodup := by rw [← hlast]; exact rotL_perm.nodup_iff.2 hLd
      rw [hlast] at hCj
      have hC' := hCj.drop hperm
      have hmem := fun x => rot_mem ha (x := x)
      simp only [← hbg] at hmem
      have hrl : (rot L ((j - 1) % (m + 1))).length = m := by rw [rot_len ha]; omega
      have hgset := gl_set (n := n) (L := L) (M := rot L ((j - 1) % (m + 1))) (c := b) hnd.1 hmem
      have hst := store_row (P := Try.prog) (u := 4) (p := b) sc4 (x := .bool true) (y := .bool (decide ((b : Int) ∉ L))) rfl hG2 (by rw [gl_get hb]; rfl)
      rw [hgset] at hst
      have hG3 := get_set (o' := .row (gl n (rot L ((j - 1) % (m + 1)))) 0 (min st b) false) hG2
      have hK3 : KeepX (p + 1) H2 (H2.set (p + 1) (.row (gl n (rot L ((j - 1) % (m + 1)))) 0 (min st b) false)) := (KeepX.refl _ _).set _
      have hl3 : (H2.set (p + 1) (AObj.row (gl n (rot L ((j - 1) % (m + 1)))) 0 (min st b) false)).length = H2.length := by simp
      generalize H2.set (p + 1) (.row (gl n (rot L ((j - 1) % (m + 1)))) 0 (min st b) false) = H3 at hst hG3 hK3 hl3
      have hl2 : p + 2 ≤ H2.length := Nat.le_trans hlen hK2.1
      have hT3 : Rw p 0 H3 (tl n (Tn L T j)) := by obtain ⟨s, hs⟩ := hT2; exact ⟨s, hK3.row (by omega) hs⟩
      have hO3 : OwnF (p + 2) H3 v (o.map (.int .i64)) := by
        rcases hO with e | ⟨r2, ve2, st2, g1, g2, g3⟩
        · exact .inl e
        · exact .inr ⟨r2, ve2, st2, g1, g2, hK3.row (by omega) (hK2.row (by omega) g3)⟩
      have hE3 : Ext H H3 := hK3.new (hK2.new hE (by omega)) (by omega)
      obtain ⟨H00, hH00⟩ : ∃ H00 : AH, H00 = H3.take (p + 2) := ⟨_, rfl⟩
      have hl00 : H00.length = p + 2 := by rw [hH00]; simp; omega
      have hE00 : Ext H00 H3 := by
        rw [hH00]
        refine ⟨by simp; omega, fun q hq => ?_⟩
        simp at hq
        rw [List.getElem?_take_of_lt (by omega)]
      rw [← hl00] at hO3
      obtain ⟨v', H4, happ, hO4, hE4⟩ := ownF_append hE00 el22 el22 (x := .int .i64 (b : Int)) (m := 1) hO3 rfl (by simp; omega)
      rw [hl00] at hO4
      have hrow4 : ∀ q, q < p + 2 → H4[q]? = H3[q]? := fun q hq => by rw [hE4.2 q (by omega), hE00.2 q (by omega)]
      have hG4 : H4[p + 1]? = some (.row (gl n (rot L ((j - 1) % (m + 1)))) 0 (min st b) false) := by rw [hrow4 _ (by omega)]; exact hG3
      have hT4 : Rw p 0 H4 (tl n (Tn L T j)) := by obtain ⟨s, hs⟩ := hT3; exact ⟨s, by rw [hrow4 _ (by omega)]; exact hs⟩
      have hE5 : Ext H H4 := ⟨by have := hE4.1; omega, fun q hq => by rw [hrow4 q (by omega), hE3.2 q hq]⟩
      refine L_reg [0, 1, 4, 5, 6, 7, 14, 15] (fun K hK => ?_)
      simp [hb, hst]
      apply hK; clear hK K
      refine L_reg [0, 1, 4, 5, 6, 7, 14, 15] (fun K hK => ?_)
      simp [happ]
      apply hK; clear hK K
      refine L_reg [0, 1, 4, 5, 6, 7, 14, 15] (fun K hK => ?_)
      simp [wrap_i64 (a := (i : Int) + 1) (by omega)]
      apply hK; clear hK K
      refine ⟨n - (i + 1), [v', .int .i64 b, .int .i64 (i + 1 : Nat)], by omega, by simp, i + 1, b, min st b, rot L ((j - 1) % (m + 1)), o ++ [(b : Int)], Tn L T j, v', rfl, by omega, hb, by omega, hnd.2, fun x hx => hLm x ((hmem x).2 (.inr hx)), hC', ?_, by simp [hol], ?_, fun x => ?_, rfl, hG4, hT4, by simpa using hO4, hE5, by have := hE4.1; omega⟩
      · rw [show n - (i + 1) = m by omega, List.append_assoc]; exact hord
      · rw [show n - (i + 1) = m by omega]; exact hsim
      · have := tn_le (L := L) (hTb x) j
        rw [Nat.succ_mul]; exact this
  · have hii : n - i = 0 := by omega
    rw [hii] at hord hsim
    simp only [ordS, List.append_nil] at hord
    have hsim : T = TF n k := hsim
    subst hord hsim
    have hw := hT.ownF (N := p) (Nat.le_refl _)
    rw [tl_len] at hw
    refine L_reg [4, 5] (fun K hK => ?_)
    simp
    apply hK; clear hK K
    rw [hp] at hw hO
    exact L_ret ⟨.inr rfl, _, rfl, h _ _ H1 (by rw [hp]; exact hO) (by rw [hp]; exact hw) hE⟩
end Go.Proofs.Ytmlhekfkniibmaa

/- What BenchPossible's own functions do: the least common multiple, tried. -/
namespace Go.Proofs.Ytmlhekfkniibmaa
open Go Go.Proofs.Ytmlhekfkniibmaa.AX

theorem lcmS_dvdP {m : Nat} : ∀ {n : Nat}, (∀ j, 2 ≤ j → j ≤ n → j ∣ m) → lcmS n ∣ m
  | 0, _ => Nat.one_dvd m
  | n + 1, h => by
    refine Nat.lcm_dvd (lcmS_dvdP fun j h1 h2 => h j h1 (by omega)) ?_
    rcases Nat.eq_zero_or_pos n with e | e
    · rw [e]; exact Nat.one_dvd m
    · exact h (n + 1) (by omega) (by omega)
theorem dvd_lcmSP {j : Nat} (h1 : 1 ≤ j) : ∀ {n : Nat}, j ≤ n → j ∣ lcmS n
  | 0, h => by omega
  | n + 1, h => by
    rcases Nat.lt_or_ge n j with e | e
    · rw [show j = n + 1 by omega]; exact Nat.dvd_lcm_right _ _
    · exact Nat.dvd_trans (dvd_lcmSP h1 e) (Nat.dvd_lcm_left _ _)
theorem tried_ac (n : Nat) (h1 : 1 ≤ n) (h2 : n ≤ 20) (H : AH) (Q : AV → AH → Prop) (h : Q (.int .i64 (lcmS n : Nat)) H) : AC Try.prog 37 [.int .i64 n] H Q := by
  have hL := lcmS_le h2
  have hp := lcmS_pos n
  refine L_body 22 Try.func37 rfl rfl ?_
  refine L_reg [0] (fun K hK => ?_)
  simp
  apply hK; clear hK K
  refine L_reg [0, 3] (fun K hK => ?_)
  simp
  apply hK; clear hK K
  refine L_block (L_loopV [3] (fun q vs H' => ∃ m : Nat, q = lcmS n - m ∧ 1 ≤ m ∧ m ≤ lcmS n ∧ vs = [.int .i64 m] ∧ H = H') _ [.int .i64 1] rfl ⟨1, rfl, by omega, by omega, rfl, rfl⟩ ?_)
  rintro q _ _ ⟨m, rfl, hm1, hm2, rfl, rfl⟩
  refine L_block ?_
  refine L_reg [0, 3, 4] (fun K hK => ?_)
  simp
  apply hK; clear hK K
  refine L_reg [0, 3, 4, 5] (fun K hK => ?_)
  simp
  apply hK; clear hK K
  refine L_block (L_loopV [4, 5] (fun q vs H' => ∃ (j : Nat) (b : Bool), q = n + 1 - j ∧ 2 ≤ j ∧ (j ≤ n + 1 ∨ j = 2) ∧ (b = true ↔ ∀ i, 2 ≤ i → i < j → i ∣ m) ∧ vs = [.bool b, .int .i64 j] ∧ H = H') _ [.bool true, .int .i64 2] rfl ⟨2, true, rfl, by omega, .inr rfl, ⟨fun _ i h3 h4 => by omega, fun _ => rfl⟩, rfl, rfl⟩ ?_)
  rintro q _ _ ⟨j, b, rfl, hj, hj2, hb, rfl, rfl⟩
  refine L_reg [0, 3, 4, 5, 8] (fun K hK => ?_)
  simp
  apply hK; clear hK K
  refine L_dec (j ≤ n) (by simp) (fun hle => ?_) (fun hgt => L_exit ?_)
  · refine L_block ?_
    have em := tmod_nat m j
    have hj0 : j ≠ 0 := by omega
    cases b with
    | false =>
      refine L_reg [0, 3, 4, 5] (fun K hK => ?_)
      simp [pickV]
      apply hK; clear hK K
      refine L_reg [0, 3, 4, 5] (fun K hK => ?_)
      simp [wrap_i64 (a := (j : Int) + 1) (by omega)]
      apply hK; clear hK K
      exact ⟨n + 1 - (j + 1), [.bool false, .int .i64 (j + 1 : Nat)], by omega, by simp, j + 1, false, rfl, by omega, by omega, ⟨fun e => (by cases e), fun e => hb.2 fun i h3 h4 => e i h3 (by omega)⟩, rfl, rfl⟩
    | true =>
      generalize hr : m % j = r at em
      refine L_reg [0, 3, 4, 5] (fun K hK => ?_)
      simp [pickV, hj0, em]
      apply hK; clear hK K
      refine L_reg [0, 3, 4, 5] (fun K hK => ?_)
      simp [wrap_i64 (a := (j : Int) + 1) (by omega)]
      apply hK; clear hK K
      refine ⟨n + 1 - (j + 1), [.bool (decide (r = 0)), .int .i64 (j + 1 : Nat)], by omega, ?_, j + 1, decide (r = 0), rfl, by omega, by omega, ?_, rfl, rfl⟩
      · simp
        try rw [Bool.eq_iff_iff]; simp
      · rw [decide_eq_true_iff]
        constructor
        · intro e i h3 h4
          by_cases h5 : i = j
          · rw [h5]; exact Nat.dvd_of_mod_eq_zero (by omega)
          · exact hb.1 rfl i h3 (by omega)
        · intro e
          rw [← hr]; exact Nat.mod_eq_zero_of_dvd (e j hj (by omega))
  · have hall : b = true ↔ lcmS n ∣ m := by
      rw [hb]
      exact ⟨fun e => lcmS_dvdP fun i h3 h4 => e i h3 (by omega), fun e i h3 h4 => Nat.dvd_trans (dvd_lcmSP (by omega) (by omega)) e⟩
    refine L_reg [0, 3, 18] (fun K hK => ?_)
    simp
    apply hK; clear hK K
    cases b with
    | true =>
      have hd := Nat.le_of_dvd (by omega) (hall.1 rfl)
      have : m = lcmS n := by omega
      subst this
      refine L_true (by simp) ?_
      refine L_reg [2] (fun K hK => ?_)
      simp
      apply hK; clear hK K
      exact L_ret ⟨.inr rfl, _, rfl, h⟩
    | false =>
      have hne : m ≠ lcmS n := by
        intro e
        have := hall.2 (by rw [e]; exact Nat.dvd_refl _)
        cases this
      refine L_false (by simp) ?_
      refine L_reg [0, 3] (fun K hK => ?_)
      simp [wrap_i64 (a := (m : Int) + 1) (by omega)]
      apply hK; clear hK K
      exact ⟨lcmS n - (m + 1), [.int .i64 (m + 1 : Nat)], by omega, by simp, m + 1, rfl, by omega, by omega, rfl, rfl⟩
end Go.Proofs.Ytmlhekfkniibmaa

/- Orders of at most six, all of them: which count has them, or why none has (no program here). -/
namespace Go.Proofs.Ytmlhekfkniibmaa
open Go Go.Proofs.Ytmlhekfkniibmaa.AX

/-- An order as a key: six places. -/
def pad (o : List Int) : List Int := o ++ List.replicate (6 - o.length) 0
/-- The counts up to m, by their orders. -/
def tabN (n m : Nat) : List (List Int × Nat) := (List.range m).map fun b => (pad (orderS n (b + 1)), b + 1)
/-- Two remainders that exclude each other. -/
def clashB (n : Nat) (r : List Int) : Bool := (List.range n).any fun i => (List.range i).any fun j => (List.range (n + 1)).any fun d => decide (2 ≤ d) && decide ((n - i) % d = 0) && decide ((n - j) % d = 0) && decide (g r i % (d : Int) ≠ g r j % (d : Int))
def fitsB (r : List Int) (k : Nat) : Bool := (List.range r.length).all fun i => decide (((k % (r.length - i) : Nat) : Int) = g r i)
theorem fitsB_iff {r : List Int} {k : Nat} : fitsB r k = true ↔ Fits r k := by
  simp only [fitsB, List.all_eq_true, List.mem_range, decide_eq_true_eq, Fits]
def leafB (n : Nat) (o : List Int) : Bool :=
  decide (checkP o = 0) && decide ((remL o).length = n) && match (tabN n (lcmS n)).lookup (pad o) with
    | some k => decide (1 ≤ k) && decide (k ≤ 60) && fitsB (remL o) k && (List.range k).all fun j => j == 0 || !fitsB (remL o) j
    | none => clashB n (remL o)
def allB (n : Nat) : Nat → List Int → Bool
  | 0, o => leafB n o
  | d + 1, o => (List.range n).all fun i => decide ((i : Int) ∈ o) || allB n d (o ++ [(i : Int)])
theorem all6 : ((List.range 6).all fun a => allB (a + 1) (a + 1) []) = true := by decide +kernel
theorem new6 : ((List.range 6).all fun a => (List.range (lcmS (a + 1))).all fun b => ((tabN (a + 1) b).lookup (pad (orderS (a + 1) (b + 1)))).isNone && decide (orderS (a + 1) (b + 1 + lcmS (a + 1)) = orderS (a + 1) (b + 1))) = true := by decide +kernel
theorem clash_no {n : Nat} {r : List Int} (hl : r.length = n) (h : clashB n r = true) (k : Nat) : ¬ Fits r k := by
  simp only [clashB, List.any_eq_true, List.mem_range, Bool.and_eq_true, decide_eq_true_eq] at h
  obtain ⟨i, hi, j, hj, d, hd, ⟨⟨h2, h3⟩, h4⟩, h5⟩ := h
  intro hf
  have a1 := hf i (by omega)
  have a2 := hf j (by omega)
  rw [hl] at a1 a2
  apply h5
  rw [← a1, ← a2]
  have b1 : k % (n - i) % d = k % d := Nat.mod_mod_of_dvd k (Nat.dvd_of_mod_eq_zero h3)
  have b2 : k % (n - j) % d = k % d := Nat.mod_mod_of_dvd k (Nat.dvd_of_mod_eq_zero h4)
  rw [← Int.natCast_emod, ← Int.natCast_emod, b1, b2]
end Go.Proofs.Ytmlhekfkniibmaa

/- BenchPossible's function put: all orders are tried. -/
namespace Go.Proofs.Ytmlhekfkniibmaa
open Go Go.Proofs.Ytmlhekfkniibmaa.AX

def tabA (n : Nat) : List (List Int × AV) := (tabN n (lcmS n)).map fun p => (p.1, AV.int .i64 (p.2 : Nat))
/-- The cells that put shares with the law. -/
structure PC (n pn pf pw pm rm : Nat) (H : AH) : Prop where
  cn : H[pn]? = some (.row [.int .i64 n] 0 0 false)
  cf : H[pf]? = some (.row [.func (.func 39) [] [.ptr pn 0 0, .ptr pf 0 0, .ptr pw 0 0, .ptr pm 0 0]] 0 0 false)
  cw : H[pw]? = some (.row [.bool true] 0 0 false)
  cm : H[pm]? = some (.row [.map rm] 0 0 false)
  mp : MapA H rm (tabA n)
theorem PC.ext {n pn pf pw pm rm : Nat} {H H' : AH} (h : PC n pn pf pw pm rm H) (hE : Ext H H') : PC n pn pf pw pm rm H' := ⟨hE.row h.cn, hE.row h.cf, hE.row h.cw, hE.row h.cm, hE.row h.mp⟩
@[simp] theorem eo_row {H0 H : AH} (t : TypeId) (n : Nat) (ps : Array (Nat × Operand)) : extO (.buildSlice t n ps) H0 H = Ext H0 H := propext ⟨fun h => h rfl, fun h _ => h⟩
/-- append(l, x...), and which rows stay as they are. -/
theorem ownF_appendL2 {P : Program} {H H0 : AH} (hE : Ext H0 H) {t u : TypeId} (ht : elT P t = true) (hu : elT P u = true) {v x : AV} {l m : List Int} (ho : OwnF H0.length H v (l.map (.int .i64))) (hx : Ls H x m) (hlen : l.length + m.length ≤ 16777216) :
    ∃ v' H', aAppend P H t u v x = some (v', H') ∧ OwnF H0.length H' v' ((l ++ m).map (.int .i64)) ∧ Ext H0 H' ∧ ∀ j, j < H.length → rowOf v ≠ some j → H'[j]? = H[j]? := by
  obtain ⟨e, I, h1, h2, h3, h4, -⟩ := elT_some ht
  have hsrc := src_ls hu hx
  have hall := all_ints m
  have hle := hE.1
  unfold aAppend
  cases m with
  | nil =>
    simp only [List.length_nil, List.map_nil] at hsrc
    refine ⟨v, H, ?_, by simpa using ho, hE, fun j _ _ => rfl⟩
    rcases ho with ⟨-, rfl⟩ | ⟨r, ver, stale, hr0, rfl, hr⟩ <;> simp [h1, h2, h3, h4, hsrc]
  | cons y m =>
    have hml : ((y :: m).map (AV.int .i64)).length = (y :: m).length := by simp
    rw [List.map_append]
    generalize (y :: m).map (AV.int .i64) = vs at *
    have hne : (y :: m).length ≠ 0 := by simp
    generalize (y :: m).length = k at *
    rcases ho with ⟨h0, rfl⟩ | ⟨r, ver, stale, hr0, rfl, hr⟩
    · have : l = [] := by simpa using h0
      subst this
      have hk : k ≤ 16777216 := by simpa using hlen
      refine ⟨.slice (some H.length) 0 k 0 1 false, H ++ [.row vs 0 0 false], ?_, .inr ⟨H.length, 0, 0, by omega, by simp [hml], by simp⟩, hE.trans (.push _ _), fun j hj _ => List.getElem?_append_left hj⟩
      simp only [h1, h2, h3, h4, hsrc]
      simp [hml, hne, hk]
      exact fun x hx => List.all_eq_true.1 hall x hx
    · have hlt : r < H.length := (List.getElem?_eq_some_iff.1 hr).1
      have hll : (l.map (AV.int .i64)).length = l.length := by simp
      generalize hL : l.map (AV.int .i64) = L at *
      refine ⟨.slice (some r) 0 (l.length + k) (ver + 1) 1 false, H.set r (AObj.row (L ++ vs) (ver + 1) (min stale l.length) false), ?_, .inr ⟨r, ver + 1, min stale l.length, hr0, by simp [hll, hml], get_set hr⟩, hE.set _ hr0, fun j _ hne => List.getElem?_set_ne (fun e => hne (by rw [← e]; rfl))⟩
      have hin : inPlace H r 0 l.length k ver 1 vs = none := by simp [inPlace, hr, hll]; omega
      have hgr : grow H r 0 l.length ver vs = some (H.set r (AObj.row (L ++ vs) (ver + 1) (min stale l.length) false), ver + 1) := by
        simp [grow, hr, ← hll]
      simp only [h1, h2, h3, h4, hsrc, hll]
      simp only [Nat.zero_lt_one, true_and, if_true, Option.bind_some, hall, hml, Nat.mul_one, beq_self_eq_true, Bool.and_true, hne, if_false, hlen, Bool.false_eq_true, hin, hgr, Option.map_some]
theorem slice_all {P : Program} {t : TypeId} {n z : Nat} (h : arSz P t = some (n, z)) (hn : 0 < n) (hz : 0 < z) {H : AH} {r ver s : Nat} {c : List AV} {ro : Bool} (hr : H[r]? = some (.row c ver s ro)) (hc : c.length = n * z) (hk : ∀ v ∈ c, v ≠ .undef) :
    sliceR P t H (.ptr r 0 ver) none none none = some (.slice (some r) 0 n ver z false) := by
  unfold arSz at h
  split at h
  case h_2 => cases h
  rename_i n' e hu
  obtain ⟨ie, hie, h⟩ := Option.map_eq_some_iff.1 h
  cases h
  have hmul : 0 < n * ie.size := Nat.mul_pos hn hz
  have h2 : (ld H r (n * ie.size - 1) ver).isSome = true := by
    rw [ld_row hr]
    have hlt : n * ie.size - 1 < c.length := by omega
    rw [List.getElem?_eq_getElem hlt]
    have := hk _ (List.getElem_mem hlt)
    generalize c[n * ie.size - 1] = v at this
    cases v <;> first | rfl | exact absurd rfl this
  have h3 : endOk H r (n * ie.size) = true := by simp [endOk, hr, hc]
  simp [sliceR, hu, hie, hn, hz, h2, h3, aBounds, partOf]
@[simp] theorem x_copy {P : Program} {H : AH} {ρ : Operand → AV} (x y : Operand) (t u : TypeId) : execN P ρ H (.call ⟨.builtin .copy, #[x, y], #[t, u]⟩) = appV (aCopy P H t (ρ x) (ρ y)) := by
  have : execN P ρ H (.call ⟨.builtin .copy, #[x, y], #[t, u]⟩) = (aCopy P H t (ρ x) (ρ y)).map fun p => (some p.1, p.2) := rfl
  rw [this]
  cases aCopy P H t (ρ x) (ρ y) <;> rfl
theorem pad_len {o : List Int} (h : o.length ≤ 6) : (pad o).length = 6 := by simp [pad]; omega
theorem copy_pad {H1 : AH} {w : Nat} {v : AV} {l : List Int} (hl0 : 1 ≤ l.length) (hl : l.length ≤ 6) (hw : H1[w]? = some (.row (List.replicate 6 (.int .i64 0)) 0 0 false)) (hv : Ls H1 v l) :
    aCopy Try.prog H1 22 (.slice (some w) 0 6 0 1 false) v = some (.int .i64 l.length, H1.set w (.row ((pad l).map (.int .i64)) 0 0 false)) := by
  obtain ⟨e, I, h1, h2, h3, h4, -⟩ := elT_some el22
  obtain ⟨i, z, g1, g2, g3, -⟩ := (tiOf_some h2).2
  obtain ⟨r, off, ver, sz, full, rfl, hld⟩ := hv
  have hlw : w < H1.length := (List.getElem?_eq_some_iff.1 hw).1
  obtain ⟨r', rfl, rfl, -⟩ := hld 0 (by omega)
  have hld2 : ldn H1 r' ver l.length off = some (l.map (.int .i64)) := ldn_ints fun i hi => by
    obtain ⟨r2, e1, -, e3⟩ := hld i hi
    obtain rfl := Option.some.inj e1
    exact e3
  have hone := all_ints l
  obtain ⟨y, l', rfl⟩ : ∃ y l', l = y :: l' := by cases l with
    | nil => simp at hl0
    | cons y l' => exact ⟨y, l', rfl⟩
  have hk : (takeKnown (l'.length + 1) (List.replicate 6 (AV.int .i64 0))).isSome = true := by
    have : l'.length + 1 = 1 ∨ l'.length + 1 = 2 ∨ l'.length + 1 = 3 ∨ l'.length + 1 = 4 ∨ l'.length + 1 = 5 ∨ l'.length + 1 = 6 := by simp at hl; omega
    rcases this with h | h | h | h | h | h <;> rw [h] <;> rfl
  have hst : stn H1 w 0 ((y :: l').map (.int .i64)) 0 = some (H1.set w (.row ((pad (y :: l')).map (.int .i64)) 0 0 false)) := by
    simp only [List.map_cons] at hone ⊢
    simp only [stn, hw, List.drop_zero, List.length_cons, List.length_map]
    rw [if_pos ⟨trivial, trivial, hone, hk⟩]
    simp [pad]
    rw [show [AV.int .i64 0, AV.int .i64 0, AV.int .i64 0, AV.int .i64 0, AV.int .i64 0] = List.replicate 5 (AV.int .i64 0) from rfl, List.drop_replicate]
  have e1 : i.size = 1 := by rw [g3, h3]
  have hmin : min (y :: l').length 6 = (y :: l').length := by omega
  simp only [aCopy, h1, g1, isNilSl, slParts, Bool.false_and, Bool.false_eq_true, if_false, hmin, e1, Nat.mul_one]
  rw [if_neg (by simp), if_pos ⟨trivial, trivial⟩, hld2, Option.bind_some, if_pos hone, hst]
  rfl
/-- What Count says of an order, by the table. -/
def cvS (n : Nat) (o : List Int) : Int := match (tabN n (lcmS n)).lookup (pad o) with | some k => (k : Int) | none => 0
def evS (n : Nat) (o : List Int) : Int := match (tabN n (lcmS n)).lookup (pad o) with | some _ => 0 | none => 12
theorem leaf_check {n : Nat} {o : List Int} (h : leafB n o = true) : checkP o = 0 ∧ (remL o).length = n := by
  simp only [leafB, Bool.and_eq_true, decide_eq_true_eq] at h
  exact h.1
theorem countT_ac (n : Nat) (v : AV) (o : List Int) (H : AH) (Q : AV → AH → Prop) (hleaf : leafB n o = true) (hlen : o.length ≤ 1000000) (hv : Ls H v o) (h : ∀ H', Ext H H' → Q (.tuple [.int .i64 (cvS n o), .int .i64 (evS n o)]) H') : AC Try.prog 29 [v] H Q := by
  have hc := leaf_check hleaf
  refine Count_ac v o H Q hv hlen (fun H1 E1 => ⟨fun e => absurd hc.1 e, fun _ => ?_⟩)
  simp only [leafB, Bool.and_eq_true, decide_eq_true_eq] at hleaf
  have h := h H1 E1
  unfold cvS evS at h
  have hl := hleaf.2
  split at hl
  · rename_i k hk
    rw [hk] at h
    simp only [Bool.and_eq_true, decide_eq_true_eq, List.all_eq_true, List.mem_range, Bool.or_eq_true, beq_iff_eq, Bool.not_eq_true'] at hl
    obtain ⟨⟨⟨k1, k2⟩, k3⟩, k4⟩ := hl
    have hf := fitsB_iff.1 k3
    refine ⟨fun k' hk' => ?_, fun hno => absurd hf (hno k k1)⟩
    have : k' = k := by
      have a1 := hk'.2.2 k k1 hf
      rcases Nat.lt_or_ge k' k with e | e
      · rcases k4 k' e with e2 | e2
        · have := hk'.1; omega
        · have := fitsB_iff.2 hk'.2.1; rw [e2] at this; cases this
      · omega
    rw [this]; exact h
  · rename_i hk
    rw [hk] at h
    exact ⟨fun k' hk' => absurd hk'.2.1 (clash_no hc.2 hl k'), fun _ => h⟩
theorem mt40 : mapT Try.prog 40 = some (.array 6 3, .int .i64 0) := by kernel_rfl
theorem at40 : arrT Try.prog 40 = some (6, .i64) := by kernel_rfl
theorem wf_small {a : Int} (h0 : 0 ≤ a) (h1 : a < 1000) : (Lit.int .i64 a).wf = true := by
  have h2 : IntKind.i64.min = -9223372036854775808 := rfl
  have h3 : IntKind.i64.max = 9223372036854775807 := rfl
  simp only [Lit.wf, h2, h3, Bool.and_eq_true, decide_eq_true_eq]
  omega
theorem okKey_pad {o : List Int} (hl : o.length ≤ 6) (h : ∀ x ∈ o, 0 ≤ x ∧ x < 1000) : okKey 6 (pad o) := by
  refine ⟨pad_len hl, fun a ha => ?_⟩
  rcases List.mem_append.1 ha with ha | ha
  · exact wf_small (h a ha).1 (h a ha).2
  · rw [List.eq_of_mem_replicate ha]; exact wf_small (by omega) (by omega)
theorem tabA_ok {n m : Nat} (hn : n ≤ 6) : ∀ p ∈ (tabN n m).map (fun p => (p.1, AV.int .i64 (p.2 : Nat))), okKey 6 p.1 := by
  intro p hp
  obtain ⟨q, hq, rfl⟩ := List.mem_map.1 hp
  obtain ⟨b, -, rfl⟩ := List.mem_map.1 hq
  refine okKey_pad (by rw [orderS_len]; exact hn) fun x hx => ?_
  have := mem_allS.1 ((orderS_perm n (b + 1)).mem_iff.1 hx)
  omega
theorem lookup_mapA (k : List Int) : ∀ l : List (List Int × Nat), (l.map fun p => (p.1, AV.int .i64 (p.2 : Nat))).lookup k = (l.lookup k).map fun v => AV.int .i64 (v : Nat)
  | [] => rfl
  | p :: l => by
    simp only [List.map_cons, List.lookup]
    have := lookup_mapA k l
    cases h : k == p.1 <;> simp [this]
theorem look_tab {n rm : Nat} {H : AH} {o : List Int} (hn : n ≤ 6) (hm : MapA H rm (tabA n)) (hk : okKey 6 (pad o)) : aLook Try.prog H 40 (.map rm) (.agg ((pad o).map (.int .i64))) false = some (.int .i64 (cvS n o)) := by
  rw [look_A mt40 at40 hm hk (tabA_ok hn)]
  unfold tabA cvS
  rw [lookup_mapA]
  cases (tabN n (lcmS n)).lookup (pad o) <;> rfl
theorem ldn_row6 {H : AH} {r : Nat} {c : List Int} (hr : H[r]? = some (.row (c.map (.int .i64)) 0 0 false)) (hc : c.length = 6) : ldn H r 0 6 0 = some (c.map (.int .i64)) := by
  rw [← hc]
  refine ldn_ints (fun i hi => ?_)
  rw [ld_row hr]
  simp [hi]
theorem set_self {H : AH} {r : Nat} {o : AObj} (h : H[r]? = some o) : H.set r o = H := by
  apply List.ext_getElem?
  intro j
  rw [List.getElem?_set]
  split
  · rename_i e; subst e
    rw [h, if_pos (List.getElem?_eq_some_iff.1 h).1]
  · rfl
theorem st_true {H : AH} {pw : Nat} (h : H[pw]? = some (.row [.bool true] 0 0 false)) : storeV Try.prog 4 H (.ptr pw 0 0) (.bool true) = some (none, H) := by
  have := store_row (P := Try.prog) (u := 4) (p := 0) sc4 (x := .bool true) (y := .bool true) rfl h (by simp)
  rw [this]
  simp only [List.set_cons_zero, Nat.min_self]
  rw [set_self h]
set_option maxRecDepth 100000 in
set_option maxHeartbeats 2000000 in
theorem put_ac (n pn pf pw pm rm : Nat) (h1 : 1 ≤ n) (h2 : n ≤ 6) : ∀ (d : Nat) (o : List Int) (v : AV) (H : AH) (Q : AV → AH → Prop), o.length + d = n → allB n d o = true → Ls H v o → PC n pn pf pw pm rm H → (∀ H', Ext H H' → Q (.tuple []) H') → AC Try.prog 39 [v, .ptr pn 0 0, .ptr pf 0 0, .ptr pw 0 0, .ptr pm 0 0] H Q := by
  intro d
  induction d with
  | succ d ih =>
    intro o v H Q hod hall hv hP h
    have ihq : ∀ (o : List Int) (v : AV) (H : AH), o.length + d = n → allB n d o = true → Ls H v o → PC n pn pf pw pm rm H → ∀ Q : AV → AH → Prop, Q (.tuple []) H → AC Try.prog 39 [v, .ptr pn 0 0, .ptr pf 0 0, .ptr pw 0 0, .ptr pm 0 0] H Q :=
      fun o v H a1 a2 a3 a4 Q hq => AC.quiet (v := .tuple []) (by rfl) (fun Q h => ih o v H Q a1 a2 a3 a4 h) Q hq
    have hvl := ls_len hv
    have l0 : ld H pn 0 0 = some (.int .i64 n) := by rw [ld_row hP.cn]; rfl
    have hlt0 : (o.length : Int) < n := by omega
    refine L_body 160 Try.func39 rfl rfl ?_
    refine L_reg [0, 1, 2, 3, 4, 23] (fun K hK => ?_)
    simp [hvl, l0]
    apply hK; clear hK K
    refine L_true (by simp; omega) ?_
    refine L_reg [0, 2, 24, 25] (fun K hK => ?_)
    simp [l0]
    apply hK; clear hK K
    refine L_block (L_loopV [25] (fun q vs H' => ∃ i : Nat, q = n - i ∧ i ≤ n ∧ vs = [.int .i64 i] ∧ Ext H H') _ [.int .i64 0] rfl ⟨0, rfl, by omega, rfl, .refl _⟩ ?_)
    rintro q _ H1 ⟨i, rfl, hi, rfl, hE⟩
    have hP1 := hP.ext hE
    have hv1 := hv.ext hE
    refine L_reg [0, 2, 24, 25, 26] (fun K hK => ?_)
    simp
    apply hK; clear hK K
    refine L_dec (i < n) (by simp) (fun hlt => ?_) (fun hge => L_exit ?_)
    · refine L_block ?_
      refine L_reg [0, 2, 6, 24, 25] (fun K hK => ?_)
      simp
      apply hK; clear hK K
      refine L_reg [0, 2, 6, 24, 25, 31] (fun K hK => ?_)
      simp [okFn_low]
      refine Contains_ac v i o _ _ hv1 (by omega) ?_
      simp
      apply hK; clear hK K
      by_cases hm : (i : Int) ∈ o
      · refine L_false (by simp [hm]) ?_
        refine L_reg [0, 2, 24, 25] (fun K hK => ?_)
        simp [wrap_i64 (a := (i : Int) + 1) (by omega)]
        apply hK; clear hK K
        exact ⟨n - (i + 1), [.int .i64 (i + 1 : Nat)], by omega, by simp, i + 1, rfl, by omega, rfl, hE⟩
      · refine L_true (by simp [hm]) ?_
        have hnext : allB n d (o ++ [(i : Int)]) = true := by
          have := List.all_eq_true.1 hall i (List.mem_range.2 hlt)
          simpa [hm] using this
        have lf : ld H1 pf 0 0 = some (.func (.func 39) [] [.ptr pn 0 0, .ptr pf 0 0, .ptr pw 0 0, .ptr pm 0 0]) := by rw [ld_row hP1.cf]; rfl
        refine L_regU3 mixed 1 5 3 5 [0, 4, 5, 1, 2, 3, 6, 7] [0, 1, 2, 4, 5, 3, 6, 7] [true, false, false, false, false, false, false] [true, false, false, false, false, false, false] [true, false, false, false, false, false, false] [0, 2, 24, 25] (by kernel_rfl) rfl (by kernel_rfl) rfl rfl rfl (by kernel_rfl) (by kernel_rfl) (by kernel_rfl) (fun K hK => ?_)
        have hc : ∀ H8, Ext H1 H8 → K [(0, v), (2, .ptr pf 0 0), (24, .int .i64 n), (25, .int .i64 i)] H8 := by
          intro H8 E8
          apply hK; clear hK K
          have hE8 := hE.trans E8
          refine L_reg [0, 2, 24, 25] (fun K hK => ?_)
          simp [wrap_i64 (a := (i : Int) + 1) (by omega)]
          apply hK; clear hK K
          exact ⟨n - (i + 1), [.int .i64 (i + 1 : Nat)], by omega, by simp, i + 1, rfl, by omega, rfl, hE8⟩
        clear hK
        refine ⟨?_, ?_, ?_⟩
        · have hB0 : Ext H1 (H1 ++ [AObj.row [AV.int .i64 (i : Int)] 0 1 false]) := .push _ _
          have hB1 : Ext (H1 ++ [AObj.row [AV.int .i64 (i : Int)] 0 1 false]) (H1 ++ [AObj.row [AV.int .i64 (i : Int)] 0 1 false, AObj.row [] 0 0 false]) := by
            have := Ext.push (H1 ++ [AObj.row [AV.int .i64 (i : Int)] 0 1 false]) [AObj.row [] 0 0 false]
            rwa [List.append_assoc] at this
          have hO : OwnF (H1 ++ [AObj.row [AV.int .i64 (i : Int)] 0 1 false]).length (H1 ++ [AObj.row [AV.int .i64 (i : Int)] 0 1 false, AObj.row [] 0 0 false]) (.slice (some (H1.length + 1)) 0 0 0 1 false) (([] : List Int).map (.int .i64)) := .inr ⟨H1.length + 1, 0, 0, by simp, rfl, by simp⟩
          have hs : Ls (H1 ++ [AObj.row [AV.int .i64 (i : Int)] 0 1 false]) (.slice (some H1.length) 0 1 0 1 false) [(i : Int)] := Ls.row (ro := false) (l := [(i : Int)]) (s := 1) (by simp) false
          obtain ⟨u1, H2, p1, p2, p3⟩ := ownF_appendL hB1 el22 el22 hO ((hv1.ext hB0).ext hB1) (by simp; omega)
          obtain ⟨u2, H3, q1, q2, q3⟩ := ownF_appendL p3 el22 el22 p2 (hs.ext p3) (by simp; omega)
          have E3 := hB0.trans q3
          have hn1 := hB0.trans hB1
          simp [addE, permL, lf, p1, q1, okFn_low, hB0, hn1]
          refine ⟨fun _ => hB0.trans p3, fun _ => E3, exC_mk (fun Q hQ => ihq (o ++ [(i : Int)]) u2 H3 (by simp; omega) hnext (by simpa using q2.own.ls) (hP1.ext E3) Q hQ) ?_⟩
          simp
          exact hc H3 E3
        · have hB0 : Ext H1 (H1 ++ [AObj.row [] 0 0 false]) := .push _ _
          obtain ⟨u1, H2, p1, p2, p3⟩ := ownF_appendL hB0 el22 el22 (ownF_new H1) (hv1.ext hB0) (by simp; omega)
          have hB2 : Ext H2 (H2 ++ [AObj.row [AV.int .i64 (i : Int)] 0 1 false]) := .push _ _
          have hs : Ls (H2 ++ [AObj.row [AV.int .i64 (i : Int)] 0 1 false]) (.slice (some H2.length) 0 1 0 1 false) [(i : Int)] := Ls.row (ro := false) (l := [(i : Int)]) (s := 1) (by simp) false
          obtain ⟨u2, H3, q1, q2, q3⟩ := ownF_appendL (p3.trans hB2) el22 el22 (ownF_ext p2 hB2) hs (by simp; omega)
          have hn1 := p3.trans hB2
          simp [addE, lf, p1, q1, okFn_low, hB0, hn1]
          refine ⟨fun _ => p3, fun _ => q3, exC_mk (fun Q hQ => ihq (o ++ [(i : Int)]) u2 H3 (by simp; omega) hnext (by simpa using q2.own.ls) (hP1.ext q3) Q hQ) ?_⟩
          simp
          exact hc H3 q3
        · have hB0 : Ext H1 (H1 ++ [AObj.row [] 0 0 false]) := .push _ _
          have hB1 : Ext (H1 ++ [AObj.row [] 0 0 false]) (H1 ++ [AObj.row [] 0 0 false, AObj.row [AV.int .i64 (i : Int)] 0 1 false]) := by
            have := Ext.push (H1 ++ [AObj.row [] 0 0 false]) [AObj.row [AV.int .i64 (i : Int)] 0 1 false]
            rwa [List.append_assoc] at this
          have hn1 := hB0.trans hB1
          obtain ⟨u1, H2, p1, p2, p3, p4⟩ := ownF_appendL2 hn1 el22 el22 (ownF_ext (ownF_new H1) hB1) (hv1.ext hn1) (by simp; omega)
          have hs : Ls H2 (.slice (some (H1.length + 1)) 0 1 0 1 false) [(i : Int)] := by
            refine Ls.row (ro := false) (l := [(i : Int)]) (s := 1) ?_ false
            rw [p4 (H1.length + 1) (by simp) (by simp [rowOf])]
            simp
          obtain ⟨u2, H3, q1, q2, q3⟩ := ownF_appendL p3 el22 el22 p2 hs (by simp; omega)
          simp [addE, permL, lf, p1, q1, okFn_low, hB0, hn1]
          refine ⟨fun _ => p3, fun _ => q3, exC_mk (fun Q hQ => ihq (o ++ [(i : Int)]) u2 H3 (by simp; omega) hnext (by simpa using q2.own.ls) (hP1.ext q3) Q hQ) ?_⟩
          simp
          exact hc H3 q3
    · exact L_ret ⟨.inr rfl, _, rfl, h H1 hE⟩
  | zero =>
    intro o v H Q hod hall hv hP h
    have hleaf : leafB n o = true := hall
    have hcz := leaf_check hleaf
    have hon : o.length = n := by omega
    have hvl := ls_len hv
    rw [hon] at hvl
    have l0 : ld H pn 0 0 = some (.int .i64 n) := by rw [ld_row hP.cn]; rfl
    refine L_body 160 Try.func39 rfl rfl ?_
    refine L_reg [0, 1, 2, 3, 4, 23] (fun K hK => ?_)
    simp [hvl, l0]
    apply hK; clear hK K
    refine L_false (by simp) ?_
    obtain ⟨I, hI, hz⟩ := zeroT_some zt43
    refine L_reg [0, 1, 3, 4, 7] (fun K hK => ?_)
    simp [hI, hz]
    apply hK; clear hK K
    have hE0 : Ext H (H ++ [AObj.row [AV.int IntKind.i64 0, AV.int IntKind.i64 0, AV.int IntKind.i64 0, AV.int IntKind.i64 0, AV.int IntKind.i64 0, AV.int IntKind.i64 0] 0 0 false]) := .push _ _
    have hw0 : (H ++ [AObj.row [AV.int IntKind.i64 0, AV.int IntKind.i64 0, AV.int IntKind.i64 0, AV.int IntKind.i64 0, AV.int IntKind.i64 0, AV.int IntKind.i64 0] 0 0 false])[H.length]? = some (.row (List.replicate 6 (.int .i64 0)) 0 0 false) := by simp [List.replicate]
    generalize H ++ [AObj.row [AV.int IntKind.i64 0, AV.int IntKind.i64 0, AV.int IntKind.i64 0, AV.int IntKind.i64 0, AV.int IntKind.i64 0, AV.int IntKind.i64 0] 0 0 false] = H1 at hE0 hw0 ⊢
    have hsl := slice_all ar43 (by decide) (by decide) hw0 (by simp) (by simp)
    have hcp := copy_pad (by omega) (by omega) hw0 (hv.ext hE0)
    refine L_reg [0, 1, 3, 4, 7] (fun K hK => ?_)
    simp [noSlice ar43, hsl, hcp]
    apply hK; clear hK K
    have hE1 : Ext H (H1.set H.length (.row ((pad o).map (.int .i64)) 0 0 false)) := hE0.set _ (Nat.le_refl _)
    have hw1 := get_set (o' := .row ((pad o).map (.int .i64)) 0 0 false) hw0
    generalize H1.set H.length (.row ((pad o).map (.int .i64)) 0 0 false) = H2 at hE1 hw1 ⊢
    have hv2 := hv.ext hE1
    refine L_reg [0, 1, 3, 4, 7, 8, 9] (fun K hK => ?_)
    simp [okFn_low]
    refine countT_ac n v o _ _ hleaf (by omega) hv2 (fun H3 E3 => ?_)
    simp
    apply hK; clear hK K
    refine L_reg [1, 3, 4, 7, 8, 9, 10, 11] (fun K hK => ?_)
    simp [okFn_low]
    refine Remainders_ac v o _ _ (hv2.ext E3) (by omega) (fun w H4 hO E4 => ?_)
    simp
    apply hK; clear hK K
    rw [hcz.1]
    unfold remP at hO
    rw [if_pos hcz.1] at hO
    have hE4 := (hE1.trans E3).trans E4
    have hP4 := hP.ext hE4
    have hw4 := E4.row (E3.row hw1)
    have hwl := hO.own.ls
    have hll := ls_len hwl
    rw [hcz.2] at hll
    have l4 : ld H4 pn 0 0 = some (.int .i64 n) := by rw [ld_row hP4.cn]; rfl
    refine L_reg [1, 3, 4, 7, 8, 9, 10, 61] (fun K hK => ?_)
    simp [pickV, hll, l4]
    apply hK; clear hK K
    refine L_false (by simp) ?_
    have hbnd : ∀ x ∈ o, 0 ≤ x ∧ x < 1000 := fun x hx => by
      have := (checkP_zero hcz.1).2.2.1 x hx
      omega
    have lpm : ld H4 pm 0 0 = some (.map rm) := by rw [ld_row hP4.cm]; rfl
    have lpw : ld H4 pw 0 0 = some (.bool true) := by rw [ld_row hP4.cw]; rfl
    have lkey := ldn_row6 hw4 (pad_len (o := o) (by omega))
    have hlk := look_tab h2 hP4.mp (okKey_pad (by omega) hbnd)
    have hst := st_true hP4.cw
    refine L_reg [1, 3, 4, 7, 8, 9, 10, 65] (fun K hK => ?_)
    simp [lpm, lkey, hlk]
    apply hK; clear hK K
    simp only [leafB, Bool.and_eq_true, decide_eq_true_eq] at hleaf
    have hl := hleaf.2
    unfold cvS at hlk ⊢
    unfold evS
    split at hl
    · rename_i k hk
      (try rw [hk] at hlk); (try rw [hk])
      simp only [Bool.and_eq_true, decide_eq_true_eq, List.all_eq_true, List.mem_range, Bool.or_eq_true, beq_iff_eq, Bool.not_eq_true'] at hl
      obtain ⟨⟨⟨k1, k2⟩, k3⟩, k4⟩ := hl
      have hf := fitsB_iff.1 k3
      refine L_true (by simp; omega) ?_
      refine L_reg [1, 3, 4, 7, 10] (fun K hK => ?_)
      simp [pickV, lpw, lpm, lkey, hlk, hst]
      apply hK; clear hK K
      refine L_reg [1, 3, 4, 7, 78, 79, 80] (fun K hK => ?_)
      simp [hll]
      apply hK; clear hK K
      refine L_block (L_loopV [80] (fun q vs H' => ∃ i : Nat, q = n - i ∧ i ≤ n ∧ vs = [.int .i64 i] ∧ H4 = H') _ [.int .i64 0] rfl ⟨0, rfl, by omega, rfl, rfl⟩ ?_)
      rintro q _ _ ⟨i, rfl, hi, rfl, rfl⟩
      refine L_reg [1, 3, 4, 7, 78, 79, 80, 81] (fun K hK => ?_)
      simp
      apply hK; clear hK K
      refine L_dec (i < n) (by simp) (fun hlt => ?_) (fun hge => L_exit ?_)
      · refine L_block ?_
        obtain ⟨rz, pz, vz, hix, hldz⟩ := ls_ix hwl (i := i) (by omega)
        have hfi := hf i (by omega)
        rw [hcz.2] at hfi
        rw [← hfi] at hldz
        have e1 : (n : Int) - i = ((n - i : Nat) : Int) := by omega
        have em := tmod_nat k (n - i)
        generalize k % (n - i) = y at em hldz
        generalize hni : n - i = m at em e1
        have hm0 : m ≠ 0 := by omega
        refine L_reg [1, 3, 4, 7, 12, 13, 78, 79, 80] (fun K hK => ?_)
        simp [hix, hldz]
        apply hK; clear hK K
        refine L_regT mixed [1, 3, 4, 7, 78, 79, 80] (by kernel_rfl) (fun K hK => ?_)
        simp [pickV, lpw, lpm, lkey, hlk, l4, e1, wrap_i64 (a := (m : Int)) (by omega), hm0, em, hst]
        apply hK; clear hK K
        refine L_reg [1, 3, 4, 7, 78, 79, 80] (fun K hK => ?_)
        simp [wrap_i64 (a := (i : Int) + 1) (by omega)]
        apply hK; clear hK K
        exact ⟨n - (i + 1), [.int .i64 (i + 1 : Nat)], by omega, by simp, i + 1, rfl, by omega, rfl, rfl⟩
      · exact L_ret ⟨.inr rfl, _, rfl, h _ hE4⟩
    · rename_i hk
      (try rw [hk] at hlk); (try rw [hk])
      refine L_false (by simp) ?_
      refine L_reg [1, 3, 10] (fun K hK => ?_)
      simp [pickV, lpw, hst]
      apply hK; clear hK K
      have hcl := hl
      simp only [clashB, List.any_eq_true, List.mem_range, Bool.and_eq_true, decide_eq_true_eq] at hcl
      obtain ⟨i0, hi0, j0, hj0, d0, hd0, ⟨⟨q2, q3⟩, q4⟩, q5⟩ := hcl
      refine L_reg [1, 3, 10, 14] (fun K hK => ?_)
      simp
      apply hK; clear hK K
      refine L_reg [1, 3, 10, 14, 107, 108, 109] (fun K hK => ?_)
      simp [hll]
      apply hK; clear hK K
      refine L_block (L_loopV [14, 109] (fun q vs H' => ∃ (i : Nat) (b : Bool), q = n - i ∧ i ≤ n ∧ (i0 < i → b = true) ∧ vs = [.bool b, .int .i64 i] ∧ H4 = H') _ [.bool false, .int .i64 0] rfl ⟨0, false, rfl, by omega, fun e => by omega, rfl, rfl⟩ ?_)
      rintro q _ _ ⟨i, b, rfl, hi, hb, rfl, rfl⟩
      refine L_reg [1, 3, 10, 14, 107, 108, 109, 110] (fun K hK => ?_)
      simp
      apply hK; clear hK K
      refine L_dec (i < n) (by simp) (fun hlt => ?_) (fun hge => L_exit ?_)
      · refine L_block ?_
        obtain ⟨rz, pz, vz, hix, hldz⟩ := ls_ix hwl (i := i) (by omega)
        obtain ⟨u, hu1, hu2⟩ := ls_hi hwl (by omega) (m := i) (by omega)
        have hul := ls_len hu2
        rw [List.length_take, Nat.min_eq_left (by omega)] at hul
        refine L_reg [1, 3, 10, 14, 15, 16, 107, 108, 109] (fun K hK => ?_)
        simp [hix, hldz]
        apply hK; clear hK K
        refine L_reg [1, 3, 10, 14, 15, 16, 107, 108, 109, 116, 117, 118] (fun K hK => ?_)
        simp [hu1, hul]
        apply hK; clear hK K
        refine L_block (L_loopV [14, 118] (fun q vs H' => ∃ (j : Nat) (b : Bool), q = i - j ∧ j ≤ i ∧ ((i0 < i ∨ (i0 = i ∧ j0 < j)) → b = true) ∧ vs = [.bool b, .int .i64 j] ∧ H4 = H') _ [.bool b, .int .i64 0] rfl ⟨0, b, rfl, by omega, fun e => hb (by omega), rfl, rfl⟩ ?_)
        clear hb
        rintro q _ _ ⟨j, b, rfl, hj, hb, rfl, rfl⟩
        refine L_reg [1, 3, 10, 14, 15, 16, 107, 108, 109, 116, 117, 118, 119] (fun K hK => ?_)
        simp
        apply hK; clear hK K
        refine L_dec (j < i) (by simp) (fun hlt2 => ?_) (fun hge2 => L_exit ?_)
        · refine L_block ?_
          obtain ⟨ry, py, vy, hiy, hldy⟩ := ls_ix hu2 (i := j) (by rw [List.length_take]; omega)
          rw [g_take hlt2] at hldy
          refine L_reg [1, 3, 10, 14, 15, 16, 17, 18, 107, 108, 109, 116, 117, 118] (fun K hK => ?_)
          simp [hiy, hldy]
          apply hK; clear hK K
          refine L_reg [1, 3, 10, 14, 15, 16, 17, 18, 19, 107, 108, 109, 116, 117, 118] (fun K hK => ?_)
          simp
          apply hK; clear hK K
          refine L_block (L_loopV [14, 19] (fun q vs H' => ∃ (d : Nat) (b : Bool), q = n + 1 - d ∧ 2 ≤ d ∧ ((i0 < i ∨ (i0 = i ∧ (j0 < j ∨ (j0 = j ∧ d0 < d)))) → b = true) ∧ vs = [.bool b, .int .i64 d] ∧ H4 = H') _ [.bool b, .int .i64 2] rfl ⟨2, b, rfl, by omega, fun e => hb (by omega), rfl, rfl⟩ ?_)
          clear hb
          rintro q _ _ ⟨d, b, rfl, hd, hb, rfl, rfl⟩
          refine L_reg [1, 3, 10, 14, 15, 16, 17, 18, 19, 107, 108, 109, 116, 117, 118, 125] (fun K hK => ?_)
          simp [l4]
          apply hK; clear hK K
          refine L_dec (d ≤ n) (by simp) (fun hle => ?_) (fun hgt => L_exit ?_)
          · refine L_block ?_
            have e1 : (n : Int) - i = ((n - i : Nat) : Int) := by omega
            have e2 : (n : Int) - j = ((n - j : Nat) : Int) := by omega
            have em1 := tmod_nat (n - i) d
            have em2 := tmod_nat (n - j) d
            have hgi := remS_pos o (allS o.length) i (by have := hcz.2; unfold remL at this; omega)
            have hgj := remS_pos o (allS o.length) j (by have := hcz.2; unfold remL at this; omega)
            have em3 : (g (remL o) i).tmod (d : Int) = g (remL o) i % (d : Int) := Int.tmod_eq_emod_of_nonneg hgi
            have em4 : (g (remL o) j).tmod (d : Int) = g (remL o) j % (d : Int) := Int.tmod_eq_emod_of_nonneg hgj
            have hd0' : d ≠ 0 := by omega
            have key : i0 = i → j0 = j → d0 = d → (n - i) % d = 0 ∧ (n - j) % d = 0 ∧ g (remL o) i % (d : Int) ≠ g (remL o) j % (d : Int) := by rintro rfl rfl rfl; exact ⟨q3, q4, q5⟩
            generalize hx1 : (n - i) % d = x1 at em1 key
            generalize hx2 : (n - j) % d = x2 at em2 key
            generalize hx3 : g (remL o) i % (d : Int) = x3 at em3 key
            generalize hx4 : g (remL o) j % (d : Int) = x4 at em4 key
            generalize hm1 : n - i = m1 at e1 em1
            generalize hm2 : n - j = m2 at e2 em2
            cases b with
            | true =>
              refine L_regT mixed [1, 3, 10, 14, 15, 16, 17, 18, 19, 107, 108, 109, 116, 117, 118] (by kernel_rfl) (fun K hK => ?_)
              simp (maxSteps := 3000000) [pickV]
              apply hK; clear hK K
              refine L_reg [1, 3, 10, 14, 15, 16, 17, 18, 19, 107, 108, 109, 116, 117, 118] (fun K hK => ?_)
              simp [wrap_i64 (a := (d : Int) + 1) (by omega)]
              apply hK; clear hK K
              exact ⟨n + 1 - (d + 1), [.bool true, .int .i64 (d + 1 : Nat)], by omega, by simp, d + 1, true, rfl, by omega, fun _ => rfl, rfl, rfl⟩
            | false =>
              by_cases c1 : x1 = 0
              · by_cases c2 : x2 = 0
                · by_cases c3 : x3 = x4
                  · refine L_regT mixed [1, 3, 10, 14, 15, 16, 17, 18, 19, 107, 108, 109, 116, 117, 118] (by kernel_rfl) (fun K hK => ?_)
                    simp [pickV, l4, e1, e2, wrap_i64 (a := (m1 : Int)) (by omega), wrap_i64 (a := (m2 : Int)) (by omega), hd0', em1, em2, em3, em4, c1, c2, c3]
                    apply hK; clear hK K
                    refine L_reg [1, 3, 10, 14, 15, 16, 17, 18, 19, 107, 108, 109, 116, 117, 118] (fun K hK => ?_)
                    simp [wrap_i64 (a := (d : Int) + 1) (by omega)]
                    apply hK; clear hK K
                    exact ⟨n + 1 - (d + 1), [.bool false, .int .i64 (d + 1 : Nat)], by omega, by simp, d + 1, false, rfl, by omega, fun e => by
                      by_cases e2 : i0 = i ∧ j0 = j ∧ d0 = d
                      · exact absurd c3 (key e2.1 e2.2.1 e2.2.2).2.2
                      · exact hb (by omega), rfl, rfl⟩
                  · refine L_regT mixed [1, 3, 10, 14, 15, 16, 17, 18, 19, 107, 108, 109, 116, 117, 118] (by kernel_rfl) (fun K hK => ?_)
                    simp [pickV, l4, e1, e2, wrap_i64 (a := (m1 : Int)) (by omega), wrap_i64 (a := (m2 : Int)) (by omega), hd0', em1, em2, em3, em4, c1, c2]
                    apply hK; clear hK K
                    refine L_reg [1, 3, 10, 14, 15, 16, 17, 18, 19, 107, 108, 109, 116, 117, 118] (fun K hK => ?_)
                    simp [wrap_i64 (a := (d : Int) + 1) (by omega)]
                    apply hK; clear hK K
                    exact ⟨n + 1 - (d + 1), [.bool true, .int .i64 (d + 1 : Nat)], by omega, by simp [c3], d + 1, true, rfl, by omega, fun _ => rfl, rfl, rfl⟩
                · have c2b : ((x2 : Int) == 0) = false := by simp; omega
                  refine L_regT mixed [1, 3, 10, 14, 15, 16, 17, 18, 19, 107, 108, 109, 116, 117, 118] (by kernel_rfl) (fun K hK => ?_)
                  simp [pickV, l4, e1, e2, wrap_i64 (a := (m1 : Int)) (by omega), wrap_i64 (a := (m2 : Int)) (by omega), hd0', em1, em2, c1, c2b]
                  apply hK; clear hK K
                  refine L_reg [1, 3, 10, 14, 15, 16, 17, 18, 19, 107, 108, 109, 116, 117, 118] (fun K hK => ?_)
                  simp [wrap_i64 (a := (d : Int) + 1) (by omega)]
                  apply hK; clear hK K
                  exact ⟨n + 1 - (d + 1), [.bool false, .int .i64 (d + 1 : Nat)], by omega, by simp, d + 1, false, rfl, by omega, fun e => by
                    by_cases e2 : i0 = i ∧ j0 = j ∧ d0 = d
                    · exact absurd (key e2.1 e2.2.1 e2.2.2).2.1 c2
                    · exact hb (by omega), rfl, rfl⟩
              · have c1b : ((x1 : Int) == 0) = false := by simp; omega
                refine L_regT mixed [1, 3, 10, 14, 15, 16, 17, 18, 19, 107, 108, 109, 116, 117, 118] (by kernel_rfl) (fun K hK => ?_)
                simp [pickV, l4, e1, wrap_i64 (a := (m1 : Int)) (by omega), hd0', em1, c1b]
                apply hK; clear hK K
                refine L_reg [1, 3, 10, 14, 15, 16, 17, 18, 19, 107, 108, 109, 116, 117, 118] (fun K hK => ?_)
                simp [wrap_i64 (a := (d : Int) + 1) (by omega)]
                apply hK; clear hK K
                exact ⟨n + 1 - (d + 1), [.bool false, .int .i64 (d + 1 : Nat)], by omega, by simp, d + 1, false, rfl, by omega, fun e => by
                  by_cases e2 : i0 = i ∧ j0 = j ∧ d0 = d
                  · exact absurd (key e2.1 e2.2.1 e2.2.2).1 c1
                  · exact hb (by omega), rfl, rfl⟩
          · refine L_reg [1, 3, 10, 14, 15, 16, 107, 108, 109, 116, 117, 118] (fun K hK => ?_)
            simp [wrap_i64 (a := (j : Int) + 1) (by omega)]
            apply hK; clear hK K
            exact ⟨i - (j + 1), [.bool b, .int .i64 (j + 1 : Nat)], by omega, by simp, j + 1, b, rfl, by omega, fun e => hb (by omega), rfl, rfl⟩
        · refine L_reg [1, 3, 10, 14, 107, 108, 109] (fun K hK => ?_)
          simp [wrap_i64 (a := (i : Int) + 1) (by omega)]
          apply hK; clear hK K
          exact ⟨n - (i + 1), [.bool b, .int .i64 (i + 1 : Nat)], by omega, by simp, i + 1, b, rfl, by omega, fun e => hb (by omega), rfl, rfl⟩
      · have hbt := hb (by omega)
        subst hbt
        refine L_reg [] (fun K hK => ?_)
        simp [pickV, lpw, hst]
        apply hK; clear hK K
        exact ⟨.inl rfl, _, rfl, h _ hE4⟩
end Go.Proofs.Ytmlhekfkniibmaa

/- BenchSeated, walked. -/
namespace Go.Proofs.Ytmlhekfkniibmaa
open Go Go.Proofs.Ytmlhekfkniibmaa.AX Go.RowKit
end Go.Proofs.Ytmlhekfkniibmaa
