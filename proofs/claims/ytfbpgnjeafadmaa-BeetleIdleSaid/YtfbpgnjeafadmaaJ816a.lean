/- Joined texts: Base, TF, FldM, Flo1, Flo2, Flo3, Flo4, Flo5, Flo6, Flo7, Cho, Pla, Plb, Plc, Kee, DayM. -/
import Derived.Test.YtfbpgnjeafadmaaChecked
import Derived.Test.YtfbpgnjeafadmaaAxQ
import Derived.Test.YtfbpgnjeafadmaaAxR
/- What is run, and what is kept between its statements. -/
namespace Go.Proofs.Ytfbpgnjeafadmaa
open Go Go.Proofs.Ytfbpgnjeafadmaa.AX Go.RowKit
set_option maxRecDepth 100000

def keepT (f : Nat) : List Nat :=
  bif Nat.ble f 56 then bif Nat.ble f 28 then bif Nat.ble f 14 then bif Nat.ble f 7 then bif Nat.ble f 3 then bif Nat.ble f 1 then bif Nat.ble f 0 then [] else [] else bif Nat.ble f 2 then [] else [0, 1, 2, 3, 4, 5, 6, 7, 8, 9, 10, 11, 12, 13, 14, 15, 16, 17, 19] else bif Nat.ble f 5 then bif Nat.ble f 4 then [0, 1, 2, 4, 5, 6, 7, 8, 9, 10, 11, 12, 13, 20] else [0, 1, 4, 5, 6, 7, 8, 9, 10, 11, 12] else bif Nat.ble f 6 then [0, 1, 2, 4, 5, 6, 7, 8, 10] else [0, 1, 2, 3, 4, 5, 6, 7, 8, 9, 10, 11, 12, 13, 14, 15, 16, 17, 18, 62, 101, 102, 103, 104, 105, 132, 142, 148, 152, 172, 177] else bif Nat.ble f 11 then bif Nat.ble f 9 then bif Nat.ble f 8 then [0, 1, 2, 3, 4, 5, 6, 7, 8, 9, 10, 11, 12, 13, 14, 15, 16, 17, 60, 61, 62, 63, 64, 69, 70, 71, 72, 73, 83, 95, 112] else [0, 1, 2, 3, 4, 5, 6, 7, 8, 9, 10, 12, 13, 38, 41, 51, 52, 53, 54, 94] else bif Nat.ble f 10 then [0, 1, 2, 3, 4, 5, 7, 8, 9, 10, 11, 12, 13, 14, 15, 17, 18, 35, 36, 37, 38, 39, 92, 98, 106, 119, 120, 121, 122, 136, 146, 147, 148, 161] else [0, 1, 2, 4, 5, 6, 7, 8, 9, 10, 11, 12, 13, 14, 15, 16, 17, 50, 70, 92, 101] else bif Nat.ble f 13 then bif Nat.ble f 12 then [0, 1, 2, 3, 6, 7, 8, 9, 10, 11, 12, 13, 14, 15, 16, 17, 19, 20, 21, 22, 46, 60, 71, 86, 87, 88, 89, 105, 107, 108, 109, 133] else [0, 1, 2, 3, 4, 7, 8, 9, 10, 11, 12, 13, 15, 17, 18, 19, 20, 21, 22, 23, 24, 25, 26, 50, 58, 59, 60, 69, 77, 78, 79, 80, 93, 94, 95, 96, 141, 143, 144, 145, 157] else [0, 1, 2, 3, 4, 5, 6, 7, 9, 10, 11, 20, 21, 22, 23, 37] else bif Nat.ble f 21 then bif Nat.ble f 18 then bif Nat.ble f 16 then bif Nat.ble f 15 then [0, 1, 2, 3, 4, 5, 6, 7, 8, 9, 10, 11, 12, 13, 14, 15, 16, 17, 79] else [0, 1, 2] else bif Nat.ble f 17 then [0, 1, 2, 3, 4, 5, 6, 7, 8, 9, 10, 11, 12, 13, 14, 15, 16, 17, 18, 78] else [0, 1, 2, 3, 4, 5, 12] else bif Nat.ble f 20 then bif Nat.ble f 19 then [0, 1, 2, 3, 4, 8] else [0, 1, 2, 3, 4, 5, 6, 13] else [0, 1, 2, 3, 4, 8] else bif Nat.ble f 25 then bif Nat.ble f 23 then bif Nat.ble f 22 then [0, 1, 2, 3, 4, 5, 12] else [0, 1, 2, 3, 4, 5, 9] else bif Nat.ble f 24 then [0, 1, 4, 5, 10, 14, 25] else [0, 1, 2, 4] else bif Nat.ble f 27 then bif Nat.ble f 26 then [0, 1, 2, 3, 4, 10, 15, 25, 35, 40, 50, 60, 68] else [0, 1, 2, 3, 4, 5, 12, 17] else [0, 1, 2, 3, 4, 5, 6, 7, 8, 9, 10, 11, 12, 13, 14, 15, 16, 26, 28, 35, 43, 52, 64, 81, 96] else bif Nat.ble f 42 then bif Nat.ble f 35 then bif Nat.ble f 32 then bif Nat.ble f 30 then bif Nat.ble f 29 then [0, 1, 2, 3, 4, 5, 6, 8, 15, 18, 19, 20, 21] else [0, 1, 2, 3, 4, 5, 6, 7, 8, 12, 20, 27, 34, 43, 60] else bif Nat.ble f 31 then [0, 1, 4, 5, 10, 14, 25] else [0, 1, 2, 4, 5, 6, 7, 8, 10, 17, 19, 20, 21, 22, 29, 32, 40] else bif Nat.ble f 34 then bif Nat.ble f 33 then [0, 1, 2, 4, 5, 6, 16, 25, 39, 47] else [0, 1, 4, 5, 6, 11] else [0, 1, 4, 5, 9] else bif Nat.ble f 39 then bif Nat.ble f 37 then bif Nat.ble f 36 then [0, 1, 4, 5, 6, 7, 8, 9, 10, 16] else [0, 1, 4, 5, 6, 7, 15] else bif Nat.ble f 38 then [0, 1, 2, 3, 4, 5, 6, 7, 8, 9, 10, 11, 12, 19, 25, 28, 47] else [0, 1, 2, 4, 5, 6, 7, 8, 9, 10, 11, 12, 22, 24, 32, 41, 58, 67] else bif Nat.ble f 41 then bif Nat.ble f 40 then [0, 1, 2, 3, 6, 7, 8, 9, 10, 11, 12, 13, 14, 39] else [0, 1, 2, 4, 5, 7, 9, 10, 11, 12] else [0, 1, 2, 3, 6, 7, 8, 9, 13, 14, 15, 16, 21] else bif Nat.ble f 49 then bif Nat.ble f 46 then bif Nat.ble f 44 then bif Nat.ble f 43 then [0, 2, 3, 4, 5, 6, 12] else [0, 1, 4, 5, 6, 7, 8, 9, 10, 11, 12, 19, 28, 35] else bif Nat.ble f 45 then [0, 1, 2, 3, 6, 7, 9, 10, 11, 12, 21, 22, 23, 24, 35, 36, 37, 52, 64] else [0, 1, 2, 3, 6, 7, 8, 9, 11, 12, 13, 26, 27, 28, 29, 57] else bif Nat.ble f 48 then bif Nat.ble f 47 then [0, 1, 2, 6, 7, 16] else [0, 2, 4] else [0, 1, 2, 4, 5, 6, 15, 16, 28] else bif Nat.ble f 53 then bif Nat.ble f 51 then bif Nat.ble f 50 then [0] else [0] else bif Nat.ble f 52 then [0, 2] else [0, 1, 2, 3, 4, 5, 6, 7, 8, 15, 32, 44] else bif Nat.ble f 55 then bif Nat.ble f 54 then [0, 1, 2] else [0, 1, 2, 3, 4, 5, 6, 7, 8, 11] else [0, 1, 2, 3, 4, 5, 11, 18] else bif Nat.ble f 84 then bif Nat.ble f 70 then bif Nat.ble f 63 then bif Nat.ble f 60 then bif Nat.ble f 58 then bif Nat.ble f 57 then [0, 1, 2, 3, 4, 5, 6, 7, 8, 10, 11, 12, 24, 30, 31, 32, 33] else [0, 1, 2] else bif Nat.ble f 59 then [0, 1, 2, 3, 4, 5, 6, 7, 8, 9, 19, 28, 35, 41, 54, 61, 82, 86] else [0, 1, 2, 3, 4, 5, 7, 9, 10, 11, 12] else bif Nat.ble f 62 then bif Nat.ble f 61 then [0, 1, 2, 4, 5, 6, 7, 8, 12, 26, 34] else [0, 1, 4] else [0, 1, 2, 4] else bif Nat.ble f 67 then bif Nat.ble f 65 then bif Nat.ble f 64 then [0, 1, 4, 5, 9, 17] else [0, 1, 2, 3, 4, 5, 6, 7, 12, 13, 14, 19] else bif Nat.ble f 66 then [0, 1, 2, 4, 5, 6, 7, 17, 26, 36, 46] else [0, 1, 2, 4, 5] else bif Nat.ble f 69 then bif Nat.ble f 68 then [0, 1, 2, 4] else [0, 1, 2, 3, 4, 5, 7, 13, 14, 15, 16, 22, 35] else [0, 1, 2, 4, 5, 6, 7, 8, 12, 24, 43, 66] else bif Nat.ble f 77 then bif Nat.ble f 74 then bif Nat.ble f 72 then bif Nat.ble f 71 then [0, 1, 4, 18] else [0, 1, 2] else bif Nat.ble f 73 then [0, 1, 2, 3, 4, 6, 7, 8] else [0, 1, 2, 3, 4] else bif Nat.ble f 76 then bif Nat.ble f 75 then [0, 1, 2, 3, 4, 5, 6, 8, 9, 17] else [0, 1, 2, 3, 4, 5, 6, 10, 11, 12, 13, 14, 15, 17, 24, 30, 45] else [0, 1, 2, 3, 6, 7, 8, 9, 10, 11, 13, 28, 32, 47, 69, 76] else bif Nat.ble f 81 then bif Nat.ble f 79 then bif Nat.ble f 78 then [0, 1, 2, 4] else [0, 1, 2] else bif Nat.ble f 80 then [0, 1, 2, 3, 4, 5, 6, 7, 8, 9] else [0, 1, 2, 3, 4] else bif Nat.ble f 83 then bif Nat.ble f 82 then [0, 1, 2, 3, 5, 6, 7] else [0, 1, 2, 3, 4, 8, 9, 10, 11, 12, 13, 14, 16, 34, 49, 68, 83] else [0, 2, 3, 9] else bif Nat.ble f 98 then bif Nat.ble f 91 then bif Nat.ble f 88 then bif Nat.ble f 86 then bif Nat.ble f 85 then [0, 1, 4, 5, 6, 11, 12, 13, 16, 19] else [0, 1, 4, 5, 6, 7, 8, 10, 26, 37] else bif Nat.ble f 87 then [0, 1, 2, 3, 5, 6, 7, 8, 10, 11, 12, 13, 14, 20, 24, 28] else [0, 1, 2, 3, 4, 5, 6, 8, 9, 10, 13, 14, 15, 27] else bif Nat.ble f 90 then bif Nat.ble f 89 then [0, 1, 2, 3, 5, 6, 7, 8, 9, 27, 42, 52, 65] else [0, 1, 2, 6] else [0, 1, 2, 3, 4, 5, 7, 8, 9, 16, 17, 18, 19] else bif Nat.ble f 95 then bif Nat.ble f 93 then bif Nat.ble f 92 then [0, 1, 2, 3, 4, 5, 6, 7, 8, 9] else [0, 2] else bif Nat.ble f 94 then [0, 1, 4, 5, 6, 7, 8, 9] else [0, 1, 4, 5, 6] else bif Nat.ble f 97 then bif Nat.ble f 96 then [0, 1, 4, 5, 6, 7, 8, 9, 10, 11, 12, 13] else [] else [] else bif Nat.ble f 105 then bif Nat.ble f 102 then bif Nat.ble f 100 then bif Nat.ble f 99 then [] else [] else bif Nat.ble f 101 then [] else [] else bif Nat.ble f 104 then bif Nat.ble f 103 then [] else [] else [] else bif Nat.ble f 109 then bif Nat.ble f 107 then bif Nat.ble f 106 then [] else [] else bif Nat.ble f 108 then [] else [] else bif Nat.ble f 111 then bif Nat.ble f 110 then [] else [] else []

def goodT (f : Nat) : Bool := Nat.ble 3 f && Nat.ble f 96 && !(Nat.beq f 12) && !(Nat.beq f 36) && !(Nat.beq f 38) && !(Nat.beq f 40) && !(Nat.beq f 57) && !(Nat.beq f 69) && !(Nat.beq f 83)

noncomputable def cx : Cx Try.prog where
  good := goodT
  keep := keepT
  ext _ _ _ := none

theorem okAll : (List.range 97).all (fun f => !(Nat.ble 3 f) || okFn Try.prog f) = true := by kernel_rfl
theorem okFn_low {f : Nat} (h3 : 3 ≤ f) (h : f ≤ 96) : okFn Try.prog f = true := by
  have := (List.all_eq_true.1 okAll) f (List.mem_range.2 (by omega))
  have h1 : Nat.ble 3 f = true := Nat.ble_eq_true_of_le h3
  simpa [h1] using this

theorem goodAll : (List.range 97).all (fun f => !goodT f || fnOrd Try.prog f) = true := by kernel_rfl

theorem cx_ok : cx.Ok where
  mixed := by kernel_rfl
  ord f h := by
    have hlt : f < 97 := by
      have h1 : Nat.ble f 96 = true := by
        simp only [cx, goodT, Bool.and_eq_true] at h
        exact h.1.1.1.1.1.1.1.2
      exact Nat.lt_succ_of_le (Nat.le_of_ble_eq_true h1)
    have := (List.all_eq_true.1 goodAll) f (List.mem_range.2 hlt)
    have hg : goodT f = true := h
    rw [hg] at this
    simpa using this
  ext f args H v H' h := by cases h
theorem mixed : Try.prog.follows .mixedOrders = true := by kernel_rfl
end Go.Proofs.Ytfbpgnjeafadmaa

/- What the steps ask of the types of this program. -/
namespace Go.Proofs.Ytfbpgnjeafadmaa
open Go Go.Proofs.Ytfbpgnjeafadmaa.AX
@[simp] theorem ld3 (H : AH) (r off ver : Nat) : loadV Try.prog 3 H (.ptr r off ver) = ld H r off ver := ld_sc (by kernel_rfl) ..
theorem sc3 : scal Try.prog 3 = true := by kernel_rfl
@[simp] theorem ld4 (H : AH) (r off ver : Nat) : loadV Try.prog 4 H (.ptr r off ver) = ld H r off ver := ld_sc (by kernel_rfl) ..
theorem sc4 : scal Try.prog 4 = true := by kernel_rfl
@[simp] theorem ld5 (H : AH) (r off ver : Nat) : loadV Try.prog 5 H (.ptr r off ver) = ld H r off ver := ld_sc (by kernel_rfl) ..
theorem sc5 : scal Try.prog 5 = true := by kernel_rfl
@[simp] theorem ld22 (H : AH) (r off ver : Nat) : loadV Try.prog 22 H (.ptr r off ver) = ld H r off ver := ld_sc (by kernel_rfl) ..
theorem sc22 : scal Try.prog 22 = true := by kernel_rfl
theorem slz22 : slSz Try.prog 22 = some 1 := by kernel_rfl
@[simp] theorem len22 (r : Option Nat) (off len ver sz : Nat) (full : Bool) : aLen Try.prog 22 (.slice r off len ver sz full) = some (.int .i64 len) := len_sl slz22 ..
@[simp] theorem lenp22 (r off len ver sz : Nat) : aLen Try.prog 22 (.part r off len ver sz) = some (.int .i64 len) := len_part slz22 ..
@[simp] theorem ixa22 (r off len ver : Nat) (full : Bool) (k : IntKind) (i : Int) : aIndexAddr Try.prog 22 (.slice (some r) off len ver 1 full) (.int k i) = if 0 ≤ i ∧ i < len then some (.ptr r (off + i.toNat * 1) ver) else none := ixa_sl slz22 ..
@[simp] theorem ixap22 (r off len ver : Nat) (k : IntKind) (i : Int) : aIndexAddr Try.prog 22 (.part r off len ver 1) (.int k i) = if 0 ≤ i ∧ i < len then some (.ptr r (off + i.toNat * 1) ver) else none := ixa_part slz22 ..
theorem el22 : elT Try.prog 22 = true := by kernel_rfl
theorem elz22 : elZ Try.prog 22 = some (.int .i64 0) := by kernel_rfl
@[simp] theorem row22 (H : AH) (b : Int) : rowV Try.prog 22 1 [(0, .int .i64 b)] H = some (some (.slice (some H.length) 0 1 0 1 false), H ++ [.row [.int .i64 b] 0 1 false]) := row1 el22 rfl rfl
theorem zt22 : zeroT Try.prog 22 = some [.slice none 0 0 0 1 false] := by kernel_rfl
theorem ag24 : aggSz Try.prog 24 = some 4 := by kernel_rfl
@[simp] theorem ld24 (H : AH) (r off ver : Nat) : loadV Try.prog 24 H (.ptr r off ver) = (ldn H r ver 4 off).map .agg := load_agg ag24 ..
@[simp] theorem fa24_0 (r off ver : Nat) : aFieldAddr Try.prog 24 (.ptr r off ver) 0 = some (.ptr r (off + 0) ver) := fld_ptr (by kernel_rfl) ..
@[simp] theorem fa24_1 (r off ver : Nat) : aFieldAddr Try.prog 24 (.ptr r off ver) 1 = some (.ptr r (off + 1) ver) := fld_ptr (by kernel_rfl) ..
@[simp] theorem fa24_2 (r off ver : Nat) : aFieldAddr Try.prog 24 (.ptr r off ver) 2 = some (.ptr r (off + 2) ver) := fld_ptr (by kernel_rfl) ..
@[simp] theorem fa24_3 (r off ver : Nat) : aFieldAddr Try.prog 24 (.ptr r off ver) 3 = some (.ptr r (off + 3) ver) := fld_ptr (by kernel_rfl) ..
theorem zt24 : zeroT Try.prog 24 = some [.int .i64 0, .int .i64 0, .slice none 0 0 0 1 false, .slice none 0 0 0 1 false] := by kernel_rfl
theorem ag27 : aggSz Try.prog 27 = some 4 := by kernel_rfl
@[simp] theorem ld27 (H : AH) (r off ver : Nat) : loadV Try.prog 27 H (.ptr r off ver) = (ldn H r ver 4 off).map .agg := load_agg ag27 ..
@[simp] theorem fa27_0 (r off ver : Nat) : aFieldAddr Try.prog 27 (.ptr r off ver) 0 = some (.ptr r (off + 0) ver) := fld_ptr (by kernel_rfl) ..
@[simp] theorem fa27_1 (r off ver : Nat) : aFieldAddr Try.prog 27 (.ptr r off ver) 1 = some (.ptr r (off + 1) ver) := fld_ptr (by kernel_rfl) ..
@[simp] theorem fa27_2 (r off ver : Nat) : aFieldAddr Try.prog 27 (.ptr r off ver) 2 = some (.ptr r (off + 2) ver) := fld_ptr (by kernel_rfl) ..
@[simp] theorem fa27_3 (r off ver : Nat) : aFieldAddr Try.prog 27 (.ptr r off ver) 3 = some (.ptr r (off + 3) ver) := fld_ptr (by kernel_rfl) ..
theorem zt27 : zeroT Try.prog 27 = some [.int .i64 0, .int .i64 0, .slice none 0 0 0 1 false, .slice none 0 0 0 1 false] := by kernel_rfl
@[simp] theorem ld38 (H : AH) (r off ver : Nat) : loadV Try.prog 38 H (.ptr r off ver) = ld H r off ver := ld_sc (by kernel_rfl) ..
theorem sc38 : scal Try.prog 38 = true := by kernel_rfl
theorem slz38 : slSz Try.prog 38 = some 4 := by kernel_rfl
@[simp] theorem len38 (r : Option Nat) (off len ver sz : Nat) (full : Bool) : aLen Try.prog 38 (.slice r off len ver sz full) = some (.int .i64 len) := len_sl slz38 ..
@[simp] theorem lenp38 (r off len ver sz : Nat) : aLen Try.prog 38 (.part r off len ver sz) = some (.int .i64 len) := len_part slz38 ..
@[simp] theorem ixa38 (r off len ver : Nat) (full : Bool) (k : IntKind) (i : Int) : aIndexAddr Try.prog 38 (.slice (some r) off len ver 4 full) (.int k i) = if 0 ≤ i ∧ i < len then some (.ptr r (off + i.toNat * 4) ver) else none := ixa_sl slz38 ..
@[simp] theorem ixap38 (r off len ver : Nat) (k : IntKind) (i : Int) : aIndexAddr Try.prog 38 (.part r off len ver 4) (.int k i) = if 0 ≤ i ∧ i < len then some (.ptr r (off + i.toNat * 4) ver) else none := ixa_part slz38 ..
theorem zt38 : zeroT Try.prog 38 = some [.slice none 0 0 0 1 false] := by kernel_rfl
@[simp] theorem ld53 (H : AH) (r off ver : Nat) : loadV Try.prog 53 H (.ptr r off ver) = ld H r off ver := ld_sc (by kernel_rfl) ..
theorem sc53 : scal Try.prog 53 = true := by kernel_rfl
theorem ag55 : aggSz Try.prog 55 = some 4 := by kernel_rfl
@[simp] theorem ld55 (H : AH) (r off ver : Nat) : loadV Try.prog 55 H (.ptr r off ver) = (ldn H r ver 4 off).map .agg := load_agg ag55 ..
@[simp] theorem fa55_0 (r off ver : Nat) : aFieldAddr Try.prog 55 (.ptr r off ver) 0 = some (.ptr r (off + 0) ver) := fld_ptr (by kernel_rfl) ..
@[simp] theorem fa55_1 (r off ver : Nat) : aFieldAddr Try.prog 55 (.ptr r off ver) 1 = some (.ptr r (off + 1) ver) := fld_ptr (by kernel_rfl) ..
@[simp] theorem fa55_2 (r off ver : Nat) : aFieldAddr Try.prog 55 (.ptr r off ver) 2 = some (.ptr r (off + 2) ver) := fld_ptr (by kernel_rfl) ..
@[simp] theorem fa55_3 (r off ver : Nat) : aFieldAddr Try.prog 55 (.ptr r off ver) 3 = some (.ptr r (off + 3) ver) := fld_ptr (by kernel_rfl) ..
@[simp] theorem built55 (x0 x1 x2 x3 : Int) : aBuilt Try.prog 55 [(0, .int .u8 x0), (1, .int .u8 x1), (2, .int .u32 x2), (3, .int .u32 x3)] = some [.int .u8 x0, .int .u8 x1, .int .u32 x2, .int .u32 x3] := by kernel_rfl
theorem zt55 : zeroT Try.prog 55 = some [.int .u8 0, .int .u8 0, .int .u32 0, .int .u32 0] := by kernel_rfl
theorem ag57 : aggSz Try.prog 57 = some 2 := by kernel_rfl
@[simp] theorem ld57 (H : AH) (r off ver : Nat) : loadV Try.prog 57 H (.ptr r off ver) = (ldn H r ver 2 off).map .agg := load_agg ag57 ..
@[simp] theorem fa57_0 (r off ver : Nat) : aFieldAddr Try.prog 57 (.ptr r off ver) 0 = some (.ptr r (off + 0) ver) := fld_ptr (by kernel_rfl) ..
@[simp] theorem fa57_1 (r off ver : Nat) : aFieldAddr Try.prog 57 (.ptr r off ver) 1 = some (.ptr r (off + 1) ver) := fld_ptr (by kernel_rfl) ..
@[simp] theorem built57 (x0 x1 : Int) : aBuilt Try.prog 57 [(0, .int .i64 x0), (1, .int .i64 x1)] = some [.int .i64 x0, .int .i64 x1] := by kernel_rfl
theorem zt57 : zeroT Try.prog 57 = some [.int .i64 0, .int .i64 0] := by kernel_rfl
theorem ar67 : arSz Try.prog 67 = some (4, 1) := by kernel_rfl
@[simp] theorem ixa67 (r off ver : Nat) (k : IntKind) (i : Int) : aIndexAddr Try.prog 67 (.ptr r off ver) (.int k i) = if 0 ≤ i ∧ i < (4 : Nat) then some (.ptr r (off + i.toNat * 1) ver) else none := ixa_ar ar67 ..
theorem ag67 : aggSz Try.prog 67 = some 4 := by kernel_rfl
@[simp] theorem ld67 (H : AH) (r off ver : Nat) : loadV Try.prog 67 H (.ptr r off ver) = (ldn H r ver 4 off).map .agg := load_agg ag67 ..
theorem zt67 : zeroT Try.prog 67 = some [.int .i64 0, .int .i64 0, .int .i64 0, .int .i64 0] := by kernel_rfl
@[simp] theorem ld71 (H : AH) (r off ver : Nat) : loadV Try.prog 71 H (.ptr r off ver) = ld H r off ver := ld_sc (by kernel_rfl) ..
theorem sc71 : scal Try.prog 71 = true := by kernel_rfl
theorem slz71 : slSz Try.prog 71 = some 4 := by kernel_rfl
@[simp] theorem len71 (r : Option Nat) (off len ver sz : Nat) (full : Bool) : aLen Try.prog 71 (.slice r off len ver sz full) = some (.int .i64 len) := len_sl slz71 ..
@[simp] theorem lenp71 (r off len ver sz : Nat) : aLen Try.prog 71 (.part r off len ver sz) = some (.int .i64 len) := len_part slz71 ..
@[simp] theorem ixa71 (r off len ver : Nat) (full : Bool) (k : IntKind) (i : Int) : aIndexAddr Try.prog 71 (.slice (some r) off len ver 4 full) (.int k i) = if 0 ≤ i ∧ i < len then some (.ptr r (off + i.toNat * 4) ver) else none := ixa_sl slz71 ..
@[simp] theorem ixap71 (r off len ver : Nat) (k : IntKind) (i : Int) : aIndexAddr Try.prog 71 (.part r off len ver 4) (.int k i) = if 0 ≤ i ∧ i < len then some (.ptr r (off + i.toNat * 4) ver) else none := ixa_part slz71 ..
theorem zt71 : zeroT Try.prog 71 = some [.slice none 0 0 0 1 false] := by kernel_rfl
theorem ag77 : aggSz Try.prog 77 = some 2 := by kernel_rfl
@[simp] theorem ld77 (H : AH) (r off ver : Nat) : loadV Try.prog 77 H (.ptr r off ver) = (ldn H r ver 2 off).map .agg := load_agg ag77 ..
@[simp] theorem fa77_0 (r off ver : Nat) : aFieldAddr Try.prog 77 (.ptr r off ver) 0 = some (.ptr r (off + 0) ver) := fld_ptr (by kernel_rfl) ..
@[simp] theorem fa77_1 (r off ver : Nat) : aFieldAddr Try.prog 77 (.ptr r off ver) 1 = some (.ptr r (off + 1) ver) := fld_ptr (by kernel_rfl) ..
@[simp] theorem built77 (x0 x1 : Int) : aBuilt Try.prog 77 [(0, .int .i64 x0), (1, .int .i64 x1)] = some [.int .i64 x0, .int .i64 x1] := by kernel_rfl
theorem zt77 : zeroT Try.prog 77 = some [.int .i64 0, .int .i64 0] := by kernel_rfl
theorem ar79 : arSz Try.prog 79 = some (25, 1) := by kernel_rfl
@[simp] theorem ixa79 (r off ver : Nat) (k : IntKind) (i : Int) : aIndexAddr Try.prog 79 (.ptr r off ver) (.int k i) = if 0 ≤ i ∧ i < (25 : Nat) then some (.ptr r (off + i.toNat * 1) ver) else none := ixa_ar ar79 ..
theorem ag79 : aggSz Try.prog 79 = some 25 := by kernel_rfl
@[simp] theorem ld79 (H : AH) (r off ver : Nat) : loadV Try.prog 79 H (.ptr r off ver) = (ldn H r ver 25 off).map .agg := load_agg ag79 ..
theorem zt79 : zeroT Try.prog 79 = some [.bool false, .bool false, .bool false, .bool false, .bool false, .bool false, .bool false, .bool false, .bool false, .bool false, .bool false, .bool false, .bool false, .bool false, .bool false, .bool false, .bool false, .bool false, .bool false, .bool false, .bool false, .bool false, .bool false, .bool false, .bool false] := by kernel_rfl
theorem ag81 : aggSz Try.prog 81 = some 52 := by kernel_rfl
@[simp] theorem ld81 (H : AH) (r off ver : Nat) : loadV Try.prog 81 H (.ptr r off ver) = (ldn H r ver 52 off).map .agg := load_agg ag81 ..
@[simp] theorem fa81_0 (r off ver : Nat) : aFieldAddr Try.prog 81 (.ptr r off ver) 0 = some (.ptr r (off + 0) ver) := fld_ptr (by kernel_rfl) ..
@[simp] theorem fa81_1 (r off ver : Nat) : aFieldAddr Try.prog 81 (.ptr r off ver) 1 = some (.ptr r (off + 2) ver) := fld_ptr (by kernel_rfl) ..
@[simp] theorem fa81_2 (r off ver : Nat) : aFieldAddr Try.prog 81 (.ptr r off ver) 2 = some (.ptr r (off + 27) ver) := fld_ptr (by kernel_rfl) ..
theorem zt81 : zeroT Try.prog 81 = some [.int .i64 0, .int .i64 0, .bool false, .bool false, .bool false, .bool false, .bool false, .bool false, .bool false, .bool false, .bool false, .bool false, .bool false, .bool false, .bool false, .bool false, .bool false, .bool false, .bool false, .bool false, .bool false, .bool false, .bool false, .bool false, .bool false, .bool false, .bool false, .bool false, .bool false, .bool false, .bool false, .bool false, .bool false, .bool false, .bool false, .bool false, .bool false, .bool false, .bool false, .bool false, .bool false, .bool false, .bool false, .bool false, .bool false, .bool false, .bool false, .bool false, .bool false, .bool false, .bool false, .bool false] := by kernel_rfl
theorem ar87 : arSz Try.prog 87 = some (25, 1) := by kernel_rfl
@[simp] theorem ixa87 (r off ver : Nat) (k : IntKind) (i : Int) : aIndexAddr Try.prog 87 (.ptr r off ver) (.int k i) = if 0 ≤ i ∧ i < (25 : Nat) then some (.ptr r (off + i.toNat * 1) ver) else none := ixa_ar ar87 ..
theorem ag87 : aggSz Try.prog 87 = some 25 := by kernel_rfl
@[simp] theorem ld87 (H : AH) (r off ver : Nat) : loadV Try.prog 87 H (.ptr r off ver) = (ldn H r ver 25 off).map .agg := load_agg ag87 ..
theorem zt87 : zeroT Try.prog 87 = some [.int .i64 0, .int .i64 0, .int .i64 0, .int .i64 0, .int .i64 0, .int .i64 0, .int .i64 0, .int .i64 0, .int .i64 0, .int .i64 0, .int .i64 0, .int .i64 0, .int .i64 0, .int .i64 0, .int .i64 0, .int .i64 0, .int .i64 0, .int .i64 0, .int .i64 0, .int .i64 0, .int .i64 0, .int .i64 0, .int .i64 0, .int .i64 0, .int .i64 0] := by kernel_rfl
@[simp] theorem ld97 (H : AH) (r off ver : Nat) : loadV Try.prog 97 H (.ptr r off ver) = ld H r off ver := ld_sc (by kernel_rfl) ..
theorem sc97 : scal Try.prog 97 = true := by kernel_rfl
theorem ar111 : arSz Try.prog 111 = some (2, 1) := by kernel_rfl
@[simp] theorem ixa111 (r off ver : Nat) (k : IntKind) (i : Int) : aIndexAddr Try.prog 111 (.ptr r off ver) (.int k i) = if 0 ≤ i ∧ i < (2 : Nat) then some (.ptr r (off + i.toNat * 1) ver) else none := ixa_ar ar111 ..
theorem ag111 : aggSz Try.prog 111 = some 2 := by kernel_rfl
@[simp] theorem ld111 (H : AH) (r off ver : Nat) : loadV Try.prog 111 H (.ptr r off ver) = (ldn H r ver 2 off).map .agg := load_agg ag111 ..
theorem zt111 : zeroT Try.prog 111 = some [.int .i64 0, .int .i64 0] := by kernel_rfl
@[simp] theorem ld112 (H : AH) (r off ver : Nat) : loadV Try.prog 112 H (.ptr r off ver) = ld H r off ver := ld_sc (by kernel_rfl) ..
theorem sc112 : scal Try.prog 112 = true := by kernel_rfl
theorem slz112 : slSz Try.prog 112 = some 2 := by kernel_rfl
@[simp] theorem len112 (r : Option Nat) (off len ver sz : Nat) (full : Bool) : aLen Try.prog 112 (.slice r off len ver sz full) = some (.int .i64 len) := len_sl slz112 ..
@[simp] theorem lenp112 (r off len ver sz : Nat) : aLen Try.prog 112 (.part r off len ver sz) = some (.int .i64 len) := len_part slz112 ..
@[simp] theorem ixa112 (r off len ver : Nat) (full : Bool) (k : IntKind) (i : Int) : aIndexAddr Try.prog 112 (.slice (some r) off len ver 2 full) (.int k i) = if 0 ≤ i ∧ i < len then some (.ptr r (off + i.toNat * 2) ver) else none := ixa_sl slz112 ..
@[simp] theorem ixap112 (r off len ver : Nat) (k : IntKind) (i : Int) : aIndexAddr Try.prog 112 (.part r off len ver 2) (.int k i) = if 0 ≤ i ∧ i < len then some (.ptr r (off + i.toNat * 2) ver) else none := ixa_part slz112 ..
theorem zt112 : zeroT Try.prog 112 = some [.slice none 0 0 0 1 false] := by kernel_rfl
@[simp] theorem ld118 (H : AH) (r off ver : Nat) : loadV Try.prog 118 H (.ptr r off ver) = ld H r off ver := ld_sc (by kernel_rfl) ..
theorem sc118 : scal Try.prog 118 = true := by kernel_rfl
@[simp] theorem ld123 (H : AH) (r off ver : Nat) : loadV Try.prog 123 H (.ptr r off ver) = ld H r off ver := ld_sc (by kernel_rfl) ..
theorem sc123 : scal Try.prog 123 = true := by kernel_rfl
@[simp] theorem cv3_118 (k : IntKind) (n : Int) : aConv Try.prog 3 118 (.int k n) = some (.int .u64 (IntKind.u64.wrap n)) := cv_int (by kernel_rfl) (by kernel_rfl) n
@[simp] theorem cv5_3 (k : IntKind) (n : Int) : aConv Try.prog 5 3 (.int k n) = some (.int .i64 (IntKind.i64.wrap n)) := cv_int (by kernel_rfl) (by kernel_rfl) n
@[simp] theorem cv53_3 (k : IntKind) (n : Int) : aConv Try.prog 53 3 (.int k n) = some (.int .i64 (IntKind.i64.wrap n)) := cv_int (by kernel_rfl) (by kernel_rfl) n
@[simp] theorem cv53_118 (k : IntKind) (n : Int) : aConv Try.prog 53 118 (.int k n) = some (.int .u64 (IntKind.u64.wrap n)) := cv_int (by kernel_rfl) (by kernel_rfl) n
@[simp] theorem cv53_123 (k : IntKind) (n : Int) : aConv Try.prog 53 123 (.int k n) = some (.int .u64 (IntKind.u64.wrap n)) := cv_int (by kernel_rfl) (by kernel_rfl) n
@[simp] theorem cv118_3 (k : IntKind) (n : Int) : aConv Try.prog 118 3 (.int k n) = some (.int .i64 (IntKind.i64.wrap n)) := cv_int (by kernel_rfl) (by kernel_rfl) n
@[simp] theorem cv118_53 (k : IntKind) (n : Int) : aConv Try.prog 118 53 (.int k n) = some (.int .u32 (IntKind.u32.wrap n)) := cv_int (by kernel_rfl) (by kernel_rfl) n
@[simp] theorem cv123_53 (k : IntKind) (n : Int) : aConv Try.prog 123 53 (.int k n) = some (.int .u32 (IntKind.u32.wrap n)) := cv_int (by kernel_rfl) (by kernel_rfl) n
end Go.Proofs.Ytfbpgnjeafadmaa

/- Bales in rows and columns, their neighbours, and what beetles reach. -/
namespace Go.Proofs.Ytfbpgnjeafadmaa.Fl
open Go Go.Proofs.Ytfbpgnjeafadmaa Go.Proofs.Ytfbpgnjeafadmaa.AX

def nbs (r c b : Nat) : List Nat :=
  (if 0 < b / c then [b - c] else []) ++ (if b / c + 1 < r then [b + c] else []) ++ (if 0 < b % c then [b - 1] else []) ++ (if b % c + 1 < c then [b + 1] else [])
def bes (r c : Nat) (S : Nat → Bool) (b : Nat) : Nat := (nbs r c b).countP S
def nxt (r c k : Nat) (O S : Nat → Bool) (b : Nat) : Bool := S b || (decide (b < r * c) && (O b && decide (k ≤ bes r c S b)))
def D (r c k : Nat) (O S : Nat → Bool) : Nat → Nat → Bool
  | 0 => S
  | t + 1 => nxt r c k O (D r c k O S t)
variable {r c k : Nat} {O O' S T : Nat → Bool}
theorem nxt_iff {b : Nat} : nxt r c k O S b = true ↔ S b = true ∨ (b < r * c ∧ O b = true ∧ k ≤ bes r c S b) := by
  simp [nxt]
theorem D_succ (t : Nat) : D r c k O S (t + 1) = nxt r c k O (D r c k O S t) := rfl
theorem D_grow {t b : Nat} (h : D r c k O S t b = true) : D r c k O S (t + 1) b = true := nxt_iff.2 (.inl h)
theorem D_le {s t b : Nat} (hst : s ≤ t) (h : D r c k O S s b = true) : D r c k O S t b = true := by
  induction hst with
  | refl => exact h
  | step _ ih => exact D_grow ih
theorem D_sup (hS : ∀ b, S b = true → b < r * c) : ∀ (t b : Nat), D r c k O S t b = true → b < r * c
  | 0, b, hb => hS b hb
  | t + 1, b, hb => by
    rcases nxt_iff.1 hb with h | h
    · exact D_sup hS t b h
    · exact h.1
theorem D_stay {t : Nat} (h : D r c k O S (t + 1) = D r c k O S t) {s : Nat} (hs : t ≤ s) : D r c k O S s = D r c k O S t := by
  induction hs with
  | refl => rfl
  | step _ ih => rw [D_succ, ih, ← D_succ, h]
def cN (n : Nat) (S : Nat → Bool) : Nat := (List.range n).countP S
theorem cN_le (n : Nat) (S : Nat → Bool) : cN n S ≤ n := by
  have := @List.countP_le_length _ S (List.range n)
  rwa [List.length_range] at this
theorem countP_lt {l : List Nat} (h : ∀ b, S b = true → T b = true) {x : Nat} (hx : x ∈ l) (h1 : S x = false) (h2 : T x = true) : l.countP S < l.countP T := by
  induction l with
  | nil => cases hx
  | cons a l ih =>
    have hm : l.countP S ≤ l.countP T := List.countP_mono_left fun b _ => h b
    rw [List.countP_cons, List.countP_cons]
    rcases List.mem_cons.1 hx with rfl | hx
    · simp [h1, h2]; omega
    · have := ih hx
      by_cases ha : S a = true
      · simp [ha, h a ha]; omega
      · simp [ha]; omega
theorem cN_lt {n x : Nat} (h : ∀ b, S b = true → T b = true) (hx : x < n) (h1 : S x = false) (h2 : T x = true) : cN n S < cN n T := countP_lt h (List.mem_range.2 hx) h1 h2
theorem D_fix (hS : ∀ b, S b = true → b < r * c) : D r c k O S (r * c + 1) = D r c k O S (r * c) := by
  have key : ∀ t, t ≤ cN (r * c) (D r c k O S t) ∨ ∃ s, s < t ∧ D r c k O S (s + 1) = D r c k O S s := by
    intro t
    induction t with
    | zero => exact .inl (Nat.zero_le _)
    | succ t ih =>
      rcases ih with ih | ⟨s, hs, h⟩
      · by_cases he : D r c k O S (t + 1) = D r c k O S t
        · exact .inr ⟨t, by omega, he⟩
        · obtain ⟨b, hb⟩ : ∃ b, D r c k O S (t + 1) b ≠ D r c k O S t b := by
            apply Classical.byContradiction
            intro hn
            exact he (funext fun b => Classical.byContradiction fun hb => hn ⟨b, hb⟩)
          have h1 : D r c k O S t b = false := by
            cases h : D r c k O S t b with
            | false => rfl
            | true => rw [h, D_grow h] at hb; exact absurd rfl hb
          have h2 : D r c k O S (t + 1) b = true := by
            cases h : D r c k O S (t + 1) b with
            | true => rfl
            | false => rw [h, h1] at hb; exact absurd rfl hb
          have := cN_lt (S := D r c k O S t) (T := D r c k O S (t + 1)) (n := r * c) (fun b h => D_grow h) (D_sup hS _ b h2) h1 h2
          exact .inl (by omega)
      · exact .inr ⟨s, by omega, h⟩
  rcases key (r * c + 1) with h | ⟨s, hs, h⟩
  · have := cN_le (r * c) (D r c k O S (r * c + 1))
    omega
  · rw [D_stay h (show s ≤ r * c + 1 by omega), D_stay h (show s ≤ r * c by omega)]
theorem D_end (hS : ∀ b, S b = true → b < r * c) {s : Nat} (hs : r * c ≤ s) : D r c k O S s = D r c k O S (r * c) := D_stay (D_fix hS) hs
/-- All that is reached. -/
def sp (r c k : Nat) (O S : Nat → Bool) : Nat → Bool := D r c k O S (r * c)
theorem sp_sup (hS : ∀ b, S b = true → b < r * c) (b : Nat) (h : sp r c k O S b = true) : b < r * c := D_sup hS _ b h
theorem sp_of {t b : Nat} (hS : ∀ b, S b = true → b < r * c) (h : D r c k O S t b = true) : sp r c k O S b = true := by
  by_cases ht : t ≤ r * c
  · exact D_le ht h
  · rw [D_end hS (by omega)] at h; exact h
theorem sp_stop (hS : ∀ b, S b = true → b < r * c) {t : Nat} (h : D r c k O S (t + 1) = D r c k O S t) : D r c k O S t = sp r c k O S := by
  funext b
  cases hb : sp r c k O S b with
  | true =>
    by_cases ht : t ≤ r * c
    · rw [← D_stay h ht]; exact hb
    · exact D_le (by omega) hb
  | false =>
    cases hd : D r c k O S t b with
    | false => rfl
    | true => rw [sp_of hS hd] at hb; cases hb
/-- The first number with a property, of those to 25, or -1. -/
def fd (p : Nat → Bool) : Int := match (List.range 26).find? p with
  | some t => t
  | none => -1
theorem fd_iff {p : Nat → Bool} (hp : ∀ t, p t = true → p (t + 1) = true) {t : Nat} (ht : t ≤ 25) : (0 ≤ fd p ∧ fd p ≤ t) ↔ p t = true := by
  have mono : ∀ s u, s ≤ u → p s = true → p u = true := fun s u hsu h => by
    induction hsu with
    | refl => exact h
    | step _ ih => exact hp _ ih
  unfold fd
  cases h : (List.range 26).find? p with
  | none =>
    have := List.find?_eq_none.1 h t (List.mem_range.2 (by omega))
    constructor
    · intro hh; have := hh.1; simp at this
    · intro hh; exact absurd hh this
  | some s =>
    have h1 := List.find?_some h
    constructor
    · intro hh
      exact mono s t (by have := hh.2; simp at this; omega) h1
    · intro hh
      refine ⟨by simp, ?_⟩
      simp only [Int.ofNat_le]
      apply Classical.byContradiction
      intro hn
      obtain ⟨as', bs, he, hno⟩ := List.find?_eq_some_iff_append.1 h |>.2
      have hlt : t < s := by omega
      have h3 : as' ++ s :: bs = List.range 26 := he.symm
      have hlen : as'.length = s := by
        have hs := congrArg (fun l => l[as'.length]?) h3
        simp at hs
        have hl : as'.length < 26 := by
          have := congrArg List.length h3
          simp at this; omega
        rw [List.getElem?_range hl] at hs
        simpa using hs.symm
      have hmem : t ∈ as' := by
        have hg : (as' ++ s :: bs)[t]? = some t := by rw [h3, List.getElem?_range (by omega)]
        rw [List.getElem?_append_left (by omega)] at hg
        exact List.mem_of_getElem? hg
      have := hno t hmem
      rw [hh] at this
      simp at this
theorem fd_range (p : Nat → Bool) : -1 ≤ fd p ∧ fd p ≤ 25 := by
  unfold fd
  cases h : (List.range 26).find? p with
  | none => simp
  | some s =>
    have := List.mem_range.1 (List.mem_of_find?_eq_some h)
    simp only
    omega
/-- The first day. -/
def day (r c : Nat) (O S : Nat → Bool) (b : Nat) : Int := fd fun t => D r c 2 O S t b
theorem day_iff {t b : Nat} (ht : t ≤ 25) : (0 ≤ day r c O S b ∧ day r c O S b ≤ t) ↔ D r c 2 O S t b = true := fd_iff (p := fun t => D r c 2 O S t b) (fun t h => D_grow h) ht
theorem day_range (b : Nat) : -1 ≤ day r c O S b ∧ day r c O S b ≤ 25 := fd_range _
/-- The days so far. -/
def dayT (r c : Nat) (O S : Nat → Bool) (t b : Nat) : Int := if D r c 2 O S t b then day r c O S b else -1
theorem dayT_new {t b : Nat} (ht : t < 25) (h1 : D r c 2 O S t b = false) (h2 : D r c 2 O S (t + 1) b = true) : day r c O S b = (t + 1 : Nat) := by
  have a := (day_iff (by omega)).2 h2
  apply Classical.byContradiction
  intro hn
  have := (day_iff (t := t) (b := b) (r := r) (c := c) (O := O) (S := S) (by omega)).1 ⟨a.1, by omega⟩
  rw [h1] at this; cases this
theorem dayT_end (hS : ∀ b, S b = true → b < r * c) (hn : r * c ≤ 25) (b : Nat) {t : Nat} (ht : D r c 2 O S t = sp r c 2 O S) : dayT r c O S t b = day r c O S b := by
  unfold dayT
  split
  · rfl
  · rename_i h
    have hd : ¬ (0 ≤ day r c O S b) := by
      intro h0
      have := (day_iff (t := 25) (b := b) (r := r) (c := c) (O := O) (S := S) (by omega)).1 ⟨h0, (day_range b).2⟩
      rw [D_end hS hn] at this
      rw [ht] at h
      exact h this
    have := (day_range (r := r) (c := c) (O := O) (S := S) b).1
    omega

/-- Twenty-five marks. -/
def mk (S : Nat → Bool) : List Bool := (List.range 25).map S
theorem mk_len (S : Nat → Bool) : (mk S).length = 25 := by simp [mk]
theorem mk_get {i : Nat} (hi : i < 25) : (mk S)[i]? = some (S i) := by
  simp [mk, List.getElem?_range hi]
theorem mk_eq : mk S = mk T ↔ ∀ b, b < 25 → S b = T b := by
  constructor
  · intro h b hb
    have := congrArg (fun l => l[b]?) h
    simp only [mk_get hb] at this
    simpa using this
  · intro h
    exact List.map_congr_left fun b hb => h b (List.mem_range.1 hb)
def upd (S : Nat → Bool) (b : Nat) (v : Bool) : Nat → Bool := fun x => if x = b then v else S x
theorem mk_set (S : Nat → Bool) (b : Nat) (v : Bool) : (mk S).set b v = mk (upd S b v) := by
  refine List.ext_getElem? fun i => ?_
  rw [List.getElem?_set]
  by_cases hi : i < 25
  · rw [mk_get hi, mk_get hi, mk_len]
    unfold upd
    split
    · rename_i h; subst h; simp [hi]
    · rename_i h; rw [if_neg (fun h' => h h'.symm)]
  · have h1 : (mk S)[i]? = none := by simp [mk]; omega
    have h2 : (mk (upd S b v))[i]? = none := by simp [mk]; omega
    rw [h1, h2, mk_len]
    split
    · simp; omega
    · rfl
def none' : Nat → Bool := fun _ => false
/-- The numbers of a set, in order. -/
def num (S : Nat → Bool) : List Int := ((List.range 25).filter S).map (fun n : Nat => (n : Int))
def numT (t : Nat) (S : Nat → Bool) : List Int := ((List.range t).filter S).map (fun n : Nat => (n : Int))
theorem num_all (S : Nat → Bool) : numT 25 S = num S := rfl
theorem numT_succ (t : Nat) (S : Nat → Bool) : numT (t + 1) S = numT t S ++ if S t then [(t : Int)] else [] := by
  unfold numT
  rw [List.range_succ, List.filter_append, List.map_append]
  cases h : S t <;> simp [h]
theorem mem_num {x : Int} : x ∈ num S ↔ ∃ b : Nat, b < 25 ∧ S b = true ∧ x = b := by
  unfold num
  simp only [List.mem_map, List.mem_filter, List.mem_range]
  constructor
  · rintro ⟨b, ⟨h1, h2⟩, rfl⟩; exact ⟨b, h1, h2, rfl⟩
  · rintro ⟨b, h1, h2, rfl⟩; exact ⟨b, ⟨h1, h2⟩, rfl⟩
theorem num_len (S : Nat → Bool) : (num S).length ≤ 25 := by
  unfold num
  rw [List.length_map]
  exact Nat.le_trans (List.length_filter_le ..) (by simp)
end Go.Proofs.Ytfbpgnjeafadmaa.Fl

/- Marks as values, bales beside bales, and what is reached. -/
namespace Go.Proofs.Ytfbpgnjeafadmaa.Fl
open Go Go.Proofs.Ytfbpgnjeafadmaa Go.Proofs.Ytfbpgnjeafadmaa.AX

theorem rem_nat (a b : Nat) : ((a : Int)).tmod (b : Int) = ((a % b : Nat) : Int) := by
  rw [Int.tmod_eq_emod_of_nonneg (Int.natCast_nonneg _)]; simp
theorem quo_nat (a b : Nat) : ((a : Int)).tdiv (b : Int) = ((a / b : Nat) : Int) := by
  rw [Int.tdiv_eq_ediv_of_nonneg (Int.natCast_nonneg _)]; simp
def bA (S : Nat → Bool) : List AV := (mk S).map .bool
def mA (S : Nat → Bool) : AV := .agg (bA S)
def fA (r c : Nat) : AV := .agg [.int .i64 r, .int .i64 c]
theorem bA_len (S : Nat → Bool) : (bA S).length = 25 := by simp [bA, mk_len]
theorem bA_get (S : Nat → Bool) {i : Nat} (hi : i < 25) : (bA S)[i]? = some (.bool (S i)) := by
  rw [bA, List.getElem?_map, mk_get hi]; rfl
theorem bA_set (S : Nat → Bool) (i : Nat) (v : Bool) : (bA S).set i (.bool v) = bA (upd S i v) := by
  rw [bA, ← List.map_set, mk_set]; rfl
theorem bA_one (S : Nat → Bool) : ∀ v ∈ bA S, v.one = true := by
  intro x hx
  obtain ⟨y, -, rfl⟩ := List.mem_map.1 hx; rfl
theorem bA_known (S : Nat → Bool) : ∀ v ∈ bA S, v ≠ .undef := fun v hv => one_known (bA_one S v hv)
theorem bA_ext {S T : Nat → Bool} (h : ∀ b, b < 25 → S b = T b) : bA S = bA T := by
  rw [bA, bA, mk_eq.2 h]
theorem take_all : ∀ {l : List AV}, (∀ v ∈ l, v ≠ .undef) → takeKnown l.length l = some l
  | [], _ => rfl
  | v :: l, h => by
    have h1 : known (some v) = some v := by
      have := h v (by simp)
      cases v <;> simp_all [known]
    rw [List.length_cons, takeKnown_succ, List.getElem?_cons_zero, h1, List.drop_succ_cons, List.drop_zero, take_all (fun x hx => h x (by simp [hx]))]
    rfl
variable {H : AH} {p s i : Nat} {S T O : Nat → Bool} {ro : Bool}
theorem ld_b (hr : H[p]? = some (.row (bA S) 0 s ro)) (hi : i < 25) : ld H p i 0 = some (.bool (S i)) := by
  rw [ld_row hr, bA_get S hi]; rfl
theorem ldn_b (hr : H[p]? = some (.row (bA S) 0 s ro)) : ldn H p 0 25 0 = some (bA S) := by
  rw [ldn_row hr]
  simpa [bA_len] using take_all (bA_known S)
theorem ldn_f {r c : Nat} (hr : H[p]? = some (.row [.int .i64 r, .int .i64 c] 0 s ro)) : ldn H p 0 2 0 = some [.int .i64 r, .int .i64 c] := by
  rw [ldn_row hr]; rfl
theorem ld_f0 {r c : Nat} (hr : H[p]? = some (.row [.int .i64 r, .int .i64 c] 0 s ro)) : ld H p 0 0 = some (.int .i64 r) := by
  rw [ld_row hr]; rfl
theorem ld_f1 {r c : Nat} (hr : H[p]? = some (.row [.int .i64 r, .int .i64 c] 0 s ro)) : ld H p 1 0 = some (.int .i64 c) := by
  rw [ld_row hr]; rfl
theorem st_b {v : Bool} (hr : H[p]? = some (.row (bA S) 0 s false)) (hi : i < 25) : storeV Try.prog 4 H (.ptr p i 0) (.bool v) = some (none, H.set p (.row (bA (upd S i v)) 0 (min s i) false)) := by
  rw [store_row (P := Try.prog) (u := 4) (p := i) sc4 (x := .bool v) (y := .bool (S i)) rfl hr (by rw [bA_get S hi]; rfl), bA_set]
theorem st_m (hr : H[p]? = some (.row (bA S) 0 s false)) : storeV Try.prog 79 H (.ptr p 0 0) (.agg (bA T)) = some (none, H.set p (.row (bA T) 0 0 false)) :=
  store_agg ag79 hr (by decide) (bA_len S) (bA_known S) (bA_len T) (bA_one T)
theorem zt79' : zeroT Try.prog 79 = some (bA none') := by rw [zt79]; rfl
theorem belB_m (N : Nat) (S : Nat → Bool) : belB N 4 (.agg (bA S)) = true := by
  simp only [belB, List.all_eq_true]
  intro v hv
  obtain ⟨y, -, rfl⟩ := List.mem_map.1 hv
  exact belB_bool _ _ _
theorem ix79 (hi : i < 25) : aIndex Try.prog 79 (.agg (bA S)) (.int .i64 i) = some (.bool (S i)) := by
  obtain ⟨ie, hie⟩ := info_of_underlying Try.underlying4
  have hs : ie.size = 1 := by
    have : (Try.prog.info? 4).map (·.size) = some 1 := by kernel_rfl
    rw [hie] at this; simpa using this
  have h1 : aPart Try.prog 4 (bA S) (i * 1) = some (.bool (S i)) := by
    unfold aPart
    rw [Try.underlying4, hie]
    simp only []
    rw [if_neg (by decide), Nat.mul_one, bA_get S hi]
  unfold aIndex
  rw [Try.underlying79]
  simp only [hie, Option.bind_some, Int.toNat_natCast, hs, h1]
  rw [if_pos ⟨by omega, by omega⟩]
theorem eqAll_map (P : Program) {d : Nat} {e : TypeId} (he : P.underlying e = some .bool) (f g : Nat → Bool) : ∀ L : List Nat, eqAll (L.map fun i => (some (AV.bool (f i)), some (AV.bool (g i)), eqV P (d + 1) e)) = some (L.all fun i => f i == g i)
  | [] => rfl
  | x :: L => by
    have h1 : eqV P (d + 1) e (.bool (f x)) (.bool (g x)) = some (f x == g x) := by
      simp [eqV, he]
    rw [List.map_cons, eqAll, h1]
    cases h : f x == g x with
    | true => simp only [List.all_cons, h, Bool.true_and]; exact eqAll_map P he f g L
    | false => simp [h]
theorem eqV79 : eqV Try.prog 4 79 (.agg (bA S)) (.agg (bA T)) = some ((List.range 25).all fun i => S i == T i) := by
  obtain ⟨ie, hie⟩ := info_of_underlying Try.underlying4
  have hs : ie.size = 1 := by
    have : (Try.prog.info? 4).map (·.size) = some 1 := by kernel_rfl
    rw [hie] at this; simpa using this
  have hp : ∀ (S : Nat → Bool) (i : Nat), i < 25 → aPart Try.prog 4 (bA S) (i * ie.size) = some (.bool (S i)) := by
    intro S i hi
    unfold aPart
    rw [Try.underlying4, hie]
    simp only []
    rw [if_neg (by decide), hs, Nat.mul_one, bA_get S hi]
  unfold eqV
  rw [Try.underlying79]
  simp only [hie]
  rw [← eqAll_map Try.prog (d := 2) Try.underlying4 S T (List.range 25)]
  refine congrArg eqAll ?_
  exact List.map_congr_left fun i hi => by rw [hp S i (List.mem_range.1 hi), hp T i (List.mem_range.1 hi)]
theorem b_eqB (l : Bool) : binV Try.prog .eql 79 l (.agg (bA S)) (.agg (bA T)) = some (.bool ((List.range 25).all fun i => S i == T i)) := by
  simp [binV, aBin, aCmp, aEqA, eqV79]
theorem b_neB (l : Bool) : binV Try.prog .neq 79 l (.agg (bA S)) (.agg (bA T)) = some (.bool (!(List.range 25).all fun i => S i == T i)) := by
  simp [binV, aBin, aCmp, aEqA, eqV79]
theorem all_eq : ((List.range 25).all fun i => S i == T i) = true ↔ ∀ b, b < 25 → S b = T b := by
  simp [List.all_eq_true]

theorem bes_eq (r c : Nat) (S : Nat → Bool) (b : Nat) : bes r c S b = (if decide (0 < b / c) && S (b - c) then 1 else 0) + (if decide (b / c + 1 < r) && S (b + c) then 1 else 0) + (if decide (0 < b % c) && S (b - 1) then 1 else 0) + (if decide (b % c + 1 < c) && S (b + 1) then 1 else 0) := by
  unfold bes nbs
  simp only [List.countP_append]
  congr 1
  · congr 1
    · congr 1
      · by_cases h : 0 < b / c <;> simp [h]
      · by_cases h : b / c + 1 < r <;> simp [h]
    · by_cases h : 0 < b % c <;> simp [h]
  · by_cases h : b % c + 1 < c <;> simp [h]
/-- Sides of a store. -/
structure Sd (r c : Nat) : Prop where
  r1 : 1 ≤ r
  r5 : r ≤ 5
  c1 : 1 ≤ c
  c5 : c ≤ 5
theorem Sd.le {r c : Nat} (h : Sd r c) : r * c ≤ 25 := Nat.mul_le_mul h.r5 h.c5
theorem Sd.pos {r c : Nat} (h : Sd r c) : 1 ≤ r * c := Nat.mul_pos h.r1 h.c1
theorem size_q {r c n : Nat} (hs : Sd r c) (hn : r * c = n) (H : AH) (Q : AV → AH → Prop) (h : Q (.int .i64 n) H) : AC Try.prog 58 [.agg [.int .i64 r, .int .i64 c]] H Q := by
  refine AC.quiet (belB_int _ _ _ _) (fun Q h => ?_) Q h
  have h5 := hs.le
  have e : (r : Int) * c = n := by rw [← hn]; simp
  rw [hn] at h5
  refine L_body 8 Try.func58 rfl rfl ?_
  refine L_reg [1] (fun K hK => ?_)
  simp [AV.isU, acells]
  apply hK; clear hK K
  have h1 : (H ++ [AObj.row [.int .i64 r, .int .i64 c] 0 0 false])[H.length]? = some (.row [.int .i64 r, .int .i64 c] 0 0 false) := by simp
  have hE : Ext H (H ++ [AObj.row [.int .i64 r, .int .i64 c] 0 0 false]) := .push _ _
  generalize H ++ [AObj.row [.int .i64 r, .int .i64 c] 0 0 false] = H1 at h1 hE ⊢
  have a0 := ld_f0 h1
  have a1 := ld_f1 h1
  refine L_reg [2] (fun K hK => ?_)
  simp [a0, a1, e, wrap_i64 (a := (n : Int)) (by omega)]
  apply hK; clear hK K
  exact L_ret ⟨.inr rfl, _, rfl, h _ hE⟩
theorem has_q {r c n : Nat} (hs : Sd r c) (hn : r * c = n) (x : Int) (H : AH) (Q : AV → AH → Prop) (h : Q (.bool (decide (0 ≤ x ∧ x < n))) H) : AC Try.prog 68 [.agg [.int .i64 r, .int .i64 c], .int .i64 x] H Q := by
  refine AC.quiet (belB_bool _ _ _) (fun Q h => ?_) Q h
  refine L_body 13 Try.func68 rfl rfl ?_
  refine L_reg [1, 2] (fun K hK => ?_)
  simp [AV.isU, acells]
  apply hK; clear hK K
  have h1 : (H ++ [AObj.row [.int .i64 r, .int .i64 c] 0 0 false])[H.length]? = some (.row [.int .i64 r, .int .i64 c] 0 0 false) := by simp
  have hE : Ext H (H ++ [AObj.row [.int .i64 r, .int .i64 c] 0 0 false]) := .push _ _
  generalize H ++ [AObj.row [.int .i64 r, .int .i64 c] 0 0 false] = H1 at h1 hE ⊢
  have a0 := ldn_f h1
  by_cases hx : 0 ≤ x
  · refine L_reg [4] (fun K hK => ?_)
    simp [okFn_low, hx, a0]
    refine size_q hs hn _ _ ?_
    simp [pickV]
    apply hK; clear hK K
    refine L_ret ⟨.inr rfl, _, rfl, ?_⟩
    simpa [hx] using h _ hE
  · refine L_reg [4] (fun K hK => ?_)
    simp [hx, pickV]
    apply hK; clear hK K
    refine L_ret ⟨.inr rfl, _, rfl, ?_⟩
    simpa [hx] using h _ hE
end Go.Proofs.Ytfbpgnjeafadmaa.Fl

/- What grows, and what is reached. -/
namespace Go.Proofs.Ytfbpgnjeafadmaa.Fl
open Go Go.Proofs.Ytfbpgnjeafadmaa Go.Proofs.Ytfbpgnjeafadmaa.AX

def b1 (q : Bool) : Nat := if q then 1 else 0
set_option maxRecDepth 100000 in
theorem beside_q {r c : Nat} (hs : Sd r c) (b : Nat) (hb : b < r * c) (S : Nat → Bool) (H : AH) (Q : AV → AH → Prop) (h : Q (.int .i64 (bes r c S b : Nat)) H) : AC Try.prog 89 [.agg [.int .i64 r, .int .i64 c], .int .i64 b, .agg (bA S)] H Q := by
  refine AC.quiet (belB_int _ _ _ _) (fun Q h => ?_) Q h
  have h25 := hs.le
  have hc1 := hs.c1
  have hc5 := hs.c5
  have hr5 := hs.r5
  rw [bes_eq] at h
  have hrow : b / c < r := Nat.div_lt_of_lt_mul (by rw [Nat.mul_comm]; exact hb)
  have hcol : b % c < c := Nat.mod_lt _ hc1
  have hdm := Nat.div_add_mod b c
  have hq := quo_nat b c
  have hm := rem_nat b c
  have hc0 : c ≠ 0 := by omega
  obtain ⟨x, hx⟩ : ∃ x, b / c = x := ⟨_, rfl⟩
  obtain ⟨y, hy⟩ : ∃ y, b % c = y := ⟨_, rfl⟩
  rw [hx] at hq hrow hdm
  rw [hy] at hm hcol hdm
  rw [hx, hy] at h
  have up1 : 0 < x → c ≤ b := fun h0 => by
    have : c * 1 ≤ c * x := Nat.mul_le_mul_left c h0
    omega
  have dn1 : x + 1 < r → b + c < r * c := fun h0 => by
    have : c * (x + 2) ≤ c * r := Nat.mul_le_mul_left c h0
    rw [Nat.mul_comm r c]
    rw [Nat.mul_add] at this
    omega
  refine L_body 69 Try.func89 rfl rfl ?_
  refine L_reg [1, 3, 5] (fun K hK => ?_)
  simp [AV.isU, acells]
  apply hK; clear hK K
  have h1 : (H ++ [AObj.row [.int .i64 r, .int .i64 c] 0 0 false, AObj.row (bA S) 0 0 false])[H.length]? = some (.row [.int .i64 r, .int .i64 c] 0 0 false) := by simp
  have h2 : (H ++ [AObj.row [.int .i64 r, .int .i64 c] 0 0 false, AObj.row (bA S) 0 0 false])[H.length + 1]? = some (.row (bA S) 0 0 false) := by simp
  have hE : Ext H (H ++ [AObj.row [.int .i64 r, .int .i64 c] 0 0 false, AObj.row (bA S) 0 0 false]) := .push _ _
  generalize H ++ [AObj.row [.int .i64 r, .int .i64 c] 0 0 false, AObj.row (bA S) 0 0 false] = H1 at h1 h2 hE ⊢
  have a0 := ld_f0 h1
  have a1 := ld_f1 h1
  have w1 : IntKind.i64.wrap (x : Int) = x := wrap_i64 (by omega)
  have hcz : (c : Int) ≠ 0 := by omega
  refine L_regT mixed [1, 3, 5, 7, 8] (by kernel_rfl) (fun K hK => ?_)
  simp [a1, hq, hm, w1, hc0]
  apply hK; clear hK K
  refine L_reg [1, 3, 5, 7, 8, 9] (fun K hK => ?_)
  simp
  apply hK; clear hK K
  obtain ⟨q1, hq1⟩ : ∃ q, (decide (0 < x) && S (b - c)) = q := ⟨_, rfl⟩
  obtain ⟨q2, hq2⟩ : ∃ q, (decide (x + 1 < r) && S (b + c)) = q := ⟨_, rfl⟩
  obtain ⟨q3, hq3⟩ : ∃ q, (decide (0 < y) && S (b - 1)) = q := ⟨_, rfl⟩
  obtain ⟨q4, hq4⟩ : ∃ q, (decide (y + 1 < c) && S (b + 1)) = q := ⟨_, rfl⟩
  rw [hq1, hq2, hq3, hq4] at h
  refine L_reg [1, 3, 5, 7, 8, 9, 27] (fun K hK => ?_)
  suffices hk : K [(1, .int .i64 b), (3, .ptr H.length 0 0), (5, .ptr (H.length + 1) 0 0), (7, .int .i64 x), (8, .int .i64 y), (9, .int .i64 0), (27, .bool q1)] H1 by
    by_cases c1 : 0 < x
    · obtain ⟨z, hz⟩ : ∃ z : Nat, (b : Int) - c = z := ⟨b - c, by have := up1 c1; omega⟩
      have hz25 : z < 25 := by omega
      have hzn : b - c = z := by omega
      have a2 := ld_b h2 hz25
      have hzi : (z : Int) < 25 := by omega
      have w : IntKind.i64.wrap (z : Int) = z := wrap_i64 (by omega)
      rw [decide_eq_true c1, Bool.true_and, hzn] at hq1
      subst hq1
      simp [c1, a1, hz, w, hzi, a2, pickV]
      exact hk
    · rw [decide_eq_false c1, Bool.false_and] at hq1
      subst hq1
      simp [c1, pickV]
      exact hk
  apply hK; clear hK K
  refine L_condK [1, 3, 5, 7, 8, 9] (fun e' H' => e' = [(1, .int .i64 b), (3, .ptr H.length 0 0), (5, .ptr (H.length + 1) 0 0), (7, .int .i64 x), (8, .int .i64 y), (9, .int .i64 (b1 q1 : Nat))] ∧ H1 = H') (t := q1) (by simp) (fun ht => ?_) (fun ht => ?_) ?_
  · subst ht
    refine L_reg [1, 3, 5, 7, 8, 9] (fun K hK => ?_)
    simp
    apply hK; clear hK K
    exact ⟨rfl, rfl⟩
  · subst ht
    exact ⟨rfl, rfl⟩
  rintro _ _ ⟨rfl, rfl⟩
  obtain ⟨m1, hm1⟩ : ∃ m, b1 q1 = m := ⟨_, rfl⟩
  have l1 : m1 ≤ 1 := by rw [← hm1]; unfold b1; split <;> omega
  rw [hm1]
  have e1 : (if q1 = true then 1 else 0) = m1 := by rw [← hm1]; rfl
  rw [e1] at h
  have wr : IntKind.i64.wrap ((r : Int) - 1) = ((r - 1 : Nat) : Int) := by rw [wrap_i64 (by have := hs.r1; omega)]; have := hs.r1; omega
  have wc : IntKind.i64.wrap ((c : Int) - 1) = ((c - 1 : Nat) : Int) := by rw [wrap_i64 (by omega)]; omega
  refine L_reg [1, 3, 5, 8, 9, 42] (fun K hK => ?_)
  suffices hk : K [(1, .int .i64 b), (3, .ptr H.length 0 0), (5, .ptr (H.length + 1) 0 0), (8, .int .i64 y), (9, .int .i64 m1), (42, .bool q2)] H1 by
    by_cases c1 : x + 1 < r
    · obtain ⟨z, hz⟩ : ∃ z : Nat, b + c = z := ⟨_, rfl⟩
      have hzz : (b : Int) + c = z := by omega
      have hz25 : z < 25 := by have := dn1 c1; omega
      have a2 := ld_b h2 hz25
      have hzi : (z : Int) < 25 := by omega
      have w : IntKind.i64.wrap (z : Int) = z := wrap_i64 (by omega)
      have c2 : x < r - 1 := by omega
      rw [decide_eq_true c1, Bool.true_and, hz] at hq2
      subst hq2
      simp [wr, c2, a0, a1, hzz, w, hzi, a2, pickV]
      exact hk
    · rw [decide_eq_false c1, Bool.false_and] at hq2
      have c2 : ¬ x < r - 1 := by omega
      subst hq2
      simp [wr, c2, a0, pickV]
      exact hk
  apply hK; clear hK K
  refine L_condK [1, 3, 5, 8, 9] (fun e' H' => e' = [(1, .int .i64 b), (3, .ptr H.length 0 0), (5, .ptr (H.length + 1) 0 0), (8, .int .i64 y), (9, .int .i64 (m1 + b1 q2 : Nat))] ∧ H1 = H') (t := q2) (by simp) (fun ht => ?_) (fun ht => ?_) ?_
  · subst ht
    refine L_reg [1, 3, 5, 8, 9] (fun K hK => ?_)
    simp [wrap_i64 (a := (m1 : Int) + 1) (by omega)]
    apply hK; clear hK K
    exact ⟨by simp [b1], rfl⟩
  · subst ht
    exact ⟨rfl, rfl⟩
  rintro _ _ ⟨rfl, rfl⟩
  obtain ⟨m2, hm2⟩ : ∃ m, m1 + b1 q2 = m := ⟨_, rfl⟩
  have l2 : m2 ≤ 2 := by rw [← hm2]; unfold b1; split <;> omega
  rw [hm2]
  have e2 : m1 + (if q2 = true then 1 else 0) = m2 := by rw [← hm2]; rfl
  rw [e2] at h
  refine L_reg [1, 3, 5, 8, 9, 52] (fun K hK => ?_)
  suffices hk : K [(1, .int .i64 b), (3, .ptr H.length 0 0), (5, .ptr (H.length + 1) 0 0), (8, .int .i64 y), (9, .int .i64 m2), (52, .bool q3)] H1 by
    by_cases c1 : 0 < y
    · have hy0 : 0 < b := by
        rcases Nat.eq_zero_or_pos b with h0 | h0
        · subst h0; simp at hy; omega
        · exact h0
      obtain ⟨z, hz⟩ : ∃ z : Nat, b - 1 = z := ⟨_, rfl⟩
      have hzz : (b : Int) - 1 = z := by omega
      have hz25 : z < 25 := by omega
      have a2 := ld_b h2 hz25
      have hzi : (z : Int) < 25 := by omega
      have w : IntKind.i64.wrap (z : Int) = z := wrap_i64 (by omega)
      rw [decide_eq_true c1, Bool.true_and, hz] at hq3
      subst hq3
      simp [c1, hzz, w, hzi, a2, pickV]
      exact hk
    · rw [decide_eq_false c1, Bool.false_and] at hq3
      subst hq3
      simp [c1, pickV]
      exact hk
  apply hK; clear hK K
  refine L_condK [1, 3, 5, 8, 9] (fun e' H' => e' = [(1, .int .i64 b), (3, .ptr H.length 0 0), (5, .ptr (H.length + 1) 0 0), (8, .int .i64 y), (9, .int .i64 (m2 + b1 q3 : Nat))] ∧ H1 = H') (t := q3) (by simp) (fun ht => ?_) (fun ht => ?_) ?_
  · subst ht
    refine L_reg [1, 3, 5, 8, 9] (fun K hK => ?_)
    simp [wrap_i64 (a := (m2 : Int) + 1) (by omega)]
    apply hK; clear hK K
    exact ⟨by simp [b1], rfl⟩
  · subst ht
    exact ⟨rfl, rfl⟩
  rintro _ _ ⟨rfl, rfl⟩
  obtain ⟨m3, hm3⟩ : ∃ m, m2 + b1 q3 = m := ⟨_, rfl⟩
  have l3 : m3 ≤ 3 := by rw [← hm3]; unfold b1; split <;> omega
  rw [hm3]
  have e3 : m2 + (if q3 = true then 1 else 0) = m3 := by rw [← hm3]; rfl
  rw [e3] at h
  refine L_reg [9, 65] (fun K hK => ?_)
  suffices hk : K [(9, .int .i64 m3), (65, .bool q4)] H1 by
    by_cases c1 : y + 1 < c
    · obtain ⟨z, hz⟩ : ∃ z : Nat, b + 1 = z := ⟨_, rfl⟩
      have hzz : (b : Int) + 1 = z := by omega
      have hz25 : z < 25 := by
        have : c * x + c ≤ c * r := by
          have : c * (x + 1) ≤ c * r := Nat.mul_le_mul_left c hrow
          rwa [Nat.mul_add, Nat.mul_one] at this
        rw [Nat.mul_comm r c] at h25
        omega
      have a2 := ld_b h2 hz25
      have hzi : (z : Int) < 25 := by omega
      have w : IntKind.i64.wrap (z : Int) = z := wrap_i64 (by omega)
      have c2 : y < c - 1 := by omega
      rw [decide_eq_true c1, Bool.true_and, hz] at hq4
      subst hq4
      simp [wc, c2, a1, hzz, w, hzi, a2, pickV]
      exact hk
    · rw [decide_eq_false c1, Bool.false_and] at hq4
      have c2 : ¬ y < c - 1 := by omega
      subst hq4
      simp [wc, c2, a1, pickV]
      exact hk
  apply hK; clear hK K
  refine L_condK [9] (fun e' H' => e' = [(9, .int .i64 (m3 + b1 q4 : Nat))] ∧ H1 = H') (t := q4) (by simp) (fun ht => ?_) (fun ht => ?_) ?_
  · subst ht
    refine L_reg [9] (fun K hK => ?_)
    simp [wrap_i64 (a := (m3 : Int) + 1) (by omega)]
    apply hK; clear hK K
    exact ⟨by simp [b1], rfl⟩
  · subst ht
    exact ⟨rfl, rfl⟩
  rintro _ _ ⟨rfl, rfl⟩
  refine L_reg [6] (fun K hK => ?_)
  simp
  apply hK; clear hK K
  exact L_ret ⟨.inr rfl, _, rfl, h _ hE⟩
end Go.Proofs.Ytfbpgnjeafadmaa.Fl

/- All bales, some without others, the numbers of some, what grows and what is reached. -/
namespace Go.Proofs.Ytfbpgnjeafadmaa.Fl
open Go Go.Proofs.Ytfbpgnjeafadmaa Go.Proofs.Ytfbpgnjeafadmaa.AX

def lt' (n : Nat) : Nat → Bool := fun b => decide (b < n)
theorem upd_lt (i : Nat) : upd (lt' i) i true = lt' (i + 1) := by
  funext b
  unfold upd lt'
  split
  · rename_i h; subst h; simp
  · congr 1; simp; omega
set_option maxRecDepth 100000 in
theorem all_q {r c n : Nat} (hs : Sd r c) (hn : r * c = n) (H : AH) (Q : AV → AH → Prop) (h : Q (.agg (bA (lt' n))) H) : AC Try.prog 73 [.agg [.int .i64 r, .int .i64 c]] H Q := by
  refine AC.quiet (belB_m _ _) (fun Q h => ?_) Q h
  have h25 := hs.le
  rw [hn] at h25
  refine L_body 14 Try.func73 rfl rfl ?_
  obtain ⟨I, hI, hz⟩ := zeroT_some zt79'
  refine L_reg [1, 2] (fun K hK => ?_)
  simp [AV.isU, acells, hI, hz]
  apply hK; clear hK K
  refine L_reg [1, 2, 3] (fun K hK => ?_)
  simp [hI, hz]
  apply hK; clear hK K
  have h1 : (H ++ [AObj.row [.int .i64 r, .int .i64 c] 0 0 false, AObj.row (bA none') 0 0 false, AObj.row (bA none') 0 0 false])[H.length]? = some (.row [.int .i64 r, .int .i64 c] 0 0 false) := by simp
  have h2 : (H ++ [AObj.row [.int .i64 r, .int .i64 c] 0 0 false, AObj.row (bA none') 0 0 false, AObj.row (bA none') 0 0 false])[H.length + 1]? = some (.row (bA none') 0 0 false) := by simp
  have h3 : (H ++ [AObj.row [.int .i64 r, .int .i64 c] 0 0 false, AObj.row (bA none') 0 0 false, AObj.row (bA none') 0 0 false])[H.length + 2]? = some (.row (bA none') 0 0 false) := by simp
  have hE : Ext H (H ++ [AObj.row [.int .i64 r, .int .i64 c] 0 0 false, AObj.row (bA none') 0 0 false, AObj.row (bA none') 0 0 false]) := .push _ _
  generalize H ++ [AObj.row [.int .i64 r, .int .i64 c] 0 0 false, AObj.row (bA none') 0 0 false, AObj.row (bA none') 0 0 false] = H1 at h1 h2 h3 hE ⊢
  have a0 := ldn_f h1
  refine L_reg [2, 3, 6, 7] (fun K hK => ?_)
  simp [okFn_low, a0]
  refine size_q hs hn _ _ ?_
  simp
  apply hK; clear hK K
  refine L_block (L_loopV [7] (fun q vs H' => ∃ (i s : Nat), q = n - i ∧ i ≤ n ∧ vs = [.int .i64 i] ∧ Ext H H' ∧ H'[H.length + 1]? = some (.row (bA none') 0 0 false) ∧ H'[H.length + 2]? = some (.row (bA (lt' i)) 0 s false)) _ [.int .i64 (0 : Nat)] rfl ⟨0, 0, rfl, by omega, rfl, hE, h2, by rw [h3, bA_ext (S := none') (T := lt' 0) (fun b _ => by simp [none', lt'])]⟩ ?_)
  clear h1 h2 h3 hE a0 H1
  rintro q _ H1 ⟨i, s, rfl, hi, rfl, hE, h2, h3⟩
  refine L_reg [2, 3, 6, 7, 8] (fun K hK => ?_)
  simp
  apply hK; clear hK K
  refine L_dec (i < n) (by simp) (fun hlt => ?_) (fun hge => L_exit ?_)
  · refine L_block ?_
    have hi25 : i < 25 := by omega
    have hii : (i : Int) < 25 := by omega
    have hst := st_b (v := true) h3 hi25
    rw [upd_lt] at hst
    refine L_reg [2, 3, 4, 6, 7] (fun K hK => ?_)
    simp
    apply hK; clear hK K
    refine L_reg [2, 3, 6, 7] (fun K hK => ?_)
    simp [hii, hst]
    apply hK; clear hK K
    refine L_reg [2, 3, 6, 7] (fun K hK => ?_)
    simp [wrap_i64 (a := (i : Int) + 1) (by omega)]
    apply hK; clear hK K
    refine ⟨n - (i + 1), [.int .i64 (i + 1 : Nat)], by omega, by simp, i + 1, min s i, rfl, by omega, rfl, hE.set _ (by omega), ?_, get_set h3⟩
    rw [List.getElem?_set_ne (by omega)]; exact h2
  · have e : i = n := by omega
    subst e
    have l := ldn_b h3
    have hst := st_m (T := lt' i) h2
    refine L_reg [2] (fun K hK => ?_)
    simp [l, hst]
    apply hK; clear hK K
    refine L_ret ⟨.inr rfl, _, res_cell rfl ?_, h _ (hE.set _ (by omega))⟩
    simp [ldn_b (get_set h2)]
/-- Some without others. -/
def sub' (S T : Nat → Bool) : Nat → Bool := fun b => S b && !T b
def or' (S T : Nat → Bool) : Nat → Bool := fun b => S b || T b
def upTo (i : Nat) (S T : Nat → Bool) : Nat → Bool := fun b => if b < i then T b else S b
theorem upd_to (i : Nat) (S T : Nat → Bool) : upd (upTo i S T) i (T i) = upTo (i + 1) S T := by
  funext b
  unfold upd upTo
  by_cases h : b = i
  · subst h; simp
  · rw [if_neg h]
    by_cases h2 : b < i
    · rw [if_pos h2, if_pos (by omega)]
    · rw [if_neg h2, if_neg (by omega)]
theorem upTo_zero (S T : Nat → Bool) : upTo 0 S T = S := by funext b; simp [upTo]
theorem upTo_all (S T : Nat → Bool) : bA (upTo 25 S T) = bA T := bA_ext fun b hb => by simp [upTo, hb]
theorem upTo_self (i : Nat) (S T : Nat → Bool) : upTo i S T i = S i := by simp [upTo]
set_option maxRecDepth 100000 in
theorem without_q (S T : Nat → Bool) (H : AH) (Q : AV → AH → Prop) (h : Q (.agg (bA (sub' S T))) H) : AC Try.prog 80 [.agg (bA S), .agg (bA T)] H Q := by
  refine AC.quiet (belB_m _ _) (fun Q h => ?_) Q h
  refine L_body 23 Try.func80 rfl rfl ?_
  obtain ⟨I, hI, hz⟩ := zeroT_some zt79'
  refine L_reg [2, 3, 4] (fun K hK => ?_)
  simp [AV.isU, acells, hI, hz]
  apply hK; clear hK K
  have h1 : (H ++ [AObj.row (bA S) 0 0 false, AObj.row (bA T) 0 0 false, AObj.row (bA none') 0 0 false])[H.length]? = some (.row (bA S) 0 0 false) := by simp
  have h2 : (H ++ [AObj.row (bA S) 0 0 false, AObj.row (bA T) 0 0 false, AObj.row (bA none') 0 0 false])[H.length + 1]? = some (.row (bA T) 0 0 false) := by simp
  have h3 : (H ++ [AObj.row (bA S) 0 0 false, AObj.row (bA T) 0 0 false, AObj.row (bA none') 0 0 false])[H.length + 2]? = some (.row (bA none') 0 0 false) := by simp
  have hE : Ext H (H ++ [AObj.row (bA S) 0 0 false, AObj.row (bA T) 0 0 false, AObj.row (bA none') 0 0 false]) := .push _ _
  generalize H ++ [AObj.row (bA S) 0 0 false, AObj.row (bA T) 0 0 false, AObj.row (bA none') 0 0 false] = H1 at h1 h2 h3 hE ⊢
  have a0 := ldn_b h2
  refine L_reg [2, 4, 7, 8] (fun K hK => ?_)
  simp [a0]
  apply hK; clear hK K
  refine L_block (L_loopV [8] (fun q vs H' => ∃ (i s : Nat), q = 25 - i ∧ i ≤ 25 ∧ vs = [.int .i64 i] ∧ Ext H H' ∧ H'[H.length]? = some (.row (bA (upTo i S (sub' S T))) 0 s false) ∧ H'[H.length + 2]? = some (.row (bA none') 0 0 false)) _ [.int .i64 (0 : Nat)] rfl ⟨0, 0, rfl, by omega, rfl, hE, by rw [upTo_zero]; exact h1, h3⟩ ?_)
  clear h1 h2 h3 hE a0 H1
  rintro q _ H1 ⟨i, s, rfl, hi, rfl, hE, h1, h3⟩
  refine L_reg [2, 4, 7, 8, 9] (fun K hK => ?_)
  simp
  apply hK; clear hK K
  refine L_dec (i < 25) (by simp; omega) (fun hlt => ?_) (fun hge => L_exit ?_)
  · refine L_block ?_
    have hii : (i : Int) < 25 := by omega
    have a1 := ld_b h1 hlt
    rw [upTo_self] at a1
    have a2 := ix79 (S := T) hlt
    have hst := st_b (v := sub' S T i) h1 hlt
    rw [upd_to] at hst
    refine L_reg [2, 4, 5, 6, 7, 8] (fun K hK => ?_)
    simp [a2]
    apply hK; clear hK K
    refine L_reg [2, 4, 7, 8] (fun K hK => ?_)
    suffices hk : K [(2, .ptr H.length 0 0), (4, .ptr (H.length + 2) 0 0), (7, .agg (bA T)), (8, .int .i64 i)] (H1.set H.length (.row (bA (upTo (i + 1) S (sub' S T))) 0 (min s i) false)) by
      cases hsi : S i with
      | true =>
        have e : sub' S T i = !T i := by simp [sub', hsi]
        rw [e] at hst
        simp [hii, a1, hsi, pickV, hst]
        exact hk
      | false =>
        have e : sub' S T i = false := by simp [sub', hsi]
        rw [e] at hst
        simp [hii, a1, hsi, pickV, hst]
        exact hk
    apply hK; clear hK K
    refine L_reg [2, 4, 7, 8] (fun K hK => ?_)
    simp [wrap_i64 (a := (i : Int) + 1) (by omega)]
    apply hK; clear hK K
    refine ⟨25 - (i + 1), [.int .i64 (i + 1 : Nat)], by omega, by simp, i + 1, min s i, rfl, by omega, rfl, hE.set _ (by omega), get_set h1, ?_⟩
    rw [List.getElem?_set_ne (by omega)]; exact h3
  · have e : i = 25 := by omega
    subst e
    rw [upTo_all] at h1
    have l := ldn_b h1
    have hst := st_m (T := sub' S T) h3
    refine L_reg [4] (fun K hK => ?_)
    simp [l, hst]
    apply hK; clear hK K
    refine L_ret ⟨.inr rfl, _, res_cell rfl ?_, h _ (hE.set _ (by omega))⟩
    simp [ldn_b (get_set h3)]
end Go.Proofs.Ytfbpgnjeafadmaa.Fl

/- Some with others, the numbers of some, what grows, what is reached, and outlines. -/
namespace Go.Proofs.Ytfbpgnjeafadmaa.Fl
open Go Go.Proofs.Ytfbpgnjeafadmaa Go.Proofs.Ytfbpgnjeafadmaa.AX

set_option maxRecDepth 100000 in
theorem and_q (S T : Nat → Bool) (H : AH) (Q : AV → AH → Prop) (h : Q (.agg (bA (or' S T))) H) : AC Try.prog 92 [.agg (bA S), .agg (bA T)] H Q := by
  refine AC.quiet (belB_m _ _) (fun Q h => ?_) Q h
  refine L_body 22 Try.func92 rfl rfl ?_
  obtain ⟨I, hI, hz⟩ := zeroT_some zt79'
  refine L_reg [2, 3, 4] (fun K hK => ?_)
  simp [AV.isU, acells, hI, hz]
  apply hK; clear hK K
  have h1 : (H ++ [AObj.row (bA S) 0 0 false, AObj.row (bA T) 0 0 false, AObj.row (bA none') 0 0 false])[H.length]? = some (.row (bA S) 0 0 false) := by simp
  have h2 : (H ++ [AObj.row (bA S) 0 0 false, AObj.row (bA T) 0 0 false, AObj.row (bA none') 0 0 false])[H.length + 1]? = some (.row (bA T) 0 0 false) := by simp
  have h3 : (H ++ [AObj.row (bA S) 0 0 false, AObj.row (bA T) 0 0 false, AObj.row (bA none') 0 0 false])[H.length + 2]? = some (.row (bA none') 0 0 false) := by simp
  have hE : Ext H (H ++ [AObj.row (bA S) 0 0 false, AObj.row (bA T) 0 0 false, AObj.row (bA none') 0 0 false]) := .push _ _
  generalize H ++ [AObj.row (bA S) 0 0 false, AObj.row (bA T) 0 0 false, AObj.row (bA none') 0 0 false] = H1 at h1 h2 h3 hE ⊢
  have a0 := ldn_b h2
  refine L_reg [2, 4, 7, 8] (fun K hK => ?_)
  simp [a0]
  apply hK; clear hK K
  refine L_block (L_loopV [8] (fun q vs H' => ∃ (i s : Nat), q = 25 - i ∧ i ≤ 25 ∧ vs = [.int .i64 i] ∧ Ext H H' ∧ H'[H.length]? = some (.row (bA (upTo i S (or' S T))) 0 s false) ∧ H'[H.length + 2]? = some (.row (bA none') 0 0 false)) _ [.int .i64 (0 : Nat)] rfl ⟨0, 0, rfl, by omega, rfl, hE, by rw [upTo_zero]; exact h1, h3⟩ ?_)
  clear h1 h2 h3 hE a0 H1
  rintro q _ H1 ⟨i, s, rfl, hi, rfl, hE, h1, h3⟩
  refine L_reg [2, 4, 7, 8, 9] (fun K hK => ?_)
  simp
  apply hK; clear hK K
  refine L_dec (i < 25) (by simp; omega) (fun hlt => ?_) (fun hge => L_exit ?_)
  · refine L_block ?_
    have hii : (i : Int) < 25 := by omega
    have a1 := ld_b h1 hlt
    rw [upTo_self] at a1
    have a2 := ix79 (S := T) hlt
    have hst := st_b (v := or' S T i) h1 hlt
    rw [upd_to] at hst
    refine L_reg [2, 4, 5, 6, 7, 8] (fun K hK => ?_)
    simp [a2]
    apply hK; clear hK K
    refine L_reg [2, 4, 7, 8] (fun K hK => ?_)
    suffices hk : K [(2, .ptr H.length 0 0), (4, .ptr (H.length + 2) 0 0), (7, .agg (bA T)), (8, .int .i64 i)] (H1.set H.length (.row (bA (upTo (i + 1) S (or' S T))) 0 (min s i) false)) by
      cases hsi : S i with
      | true =>
        have e : or' S T i = true := by simp [or', hsi]
        rw [e] at hst
        simp [hii, a1, hsi, pickV, hst]
        exact hk
      | false =>
        have e : or' S T i = T i := by simp [or', hsi]
        rw [e] at hst
        simp [hii, a1, hsi, pickV, hst]
        exact hk
    apply hK; clear hK K
    refine L_reg [2, 4, 7, 8] (fun K hK => ?_)
    simp [wrap_i64 (a := (i : Int) + 1) (by omega)]
    apply hK; clear hK K
    refine ⟨25 - (i + 1), [.int .i64 (i + 1 : Nat)], by omega, by simp, i + 1, min s i, rfl, by omega, rfl, hE.set _ (by omega), get_set h1, ?_⟩
    rw [List.getElem?_set_ne (by omega)]; exact h3
  · have e : i = 25 := by omega
    subst e
    rw [upTo_all] at h1
    have l := ldn_b h1
    have hst := st_m (T := or' S T) h3
    refine L_reg [4] (fun K hK => ?_)
    simp [l, hst]
    apply hK; clear hK K
    refine L_ret ⟨.inr rfl, _, res_cell rfl ?_, h _ (hE.set _ (by omega))⟩
    simp [ldn_b (get_set h3)]

def g (l : List Int) (i : Nat) : Int := l.getD i 0
theorem g_lt {c : List Int} {i : Nat} (h : i < c.length) : g c i = c[i] := by simp [g, List.getD_eq_getElem?_getD, h]
theorem ls_len {H : AH} {v : AV} {l : List Int} (h : Ls H v l) : aLen Try.prog 22 v = some (.int .i64 l.length) := by
  obtain ⟨r, off, ver, sz, full, rfl, -⟩ := h
  exact len22 ..
theorem ls_ix {H : AH} {v : AV} {l : List Int} (h : Ls H v l) {i : Nat} (hi : i < l.length) : ∃ r p ver, (∀ k, aIndexAddr Try.prog 22 v (.int k (i : Int)) = some (.ptr r p ver)) ∧ ld H r p ver = some (.int .i64 (g l i)) := by
  obtain ⟨r, off, ver, sz, full, rfl, hld⟩ := h
  obtain ⟨r', rfl, rfl, h3⟩ := hld i hi
  refine ⟨r', off + i, ver, fun k => ?_, by rw [h3, g_lt hi]⟩
  rw [ixa22]
  simp
  omega
theorem ownF_ls {N : Nat} {H : AH} {v : AV} {l : List Int} (h : OwnF N H v (l.map (.int .i64))) : Ls H v l := by
  rcases h with ⟨h1, rfl⟩ | ⟨r, ver, stale, h1, rfl, h3⟩
  · obtain rfl : l = [] := by simpa using h1
    exact Ls.nil H
  · have := Ls.row h3 false
    simpa using this
theorem ownF_keep {N : Nat} {H H' : AH} {v : AV} {l : List AV} (h : OwnF N H v l) (hE : ∀ (j : Nat) (o : AObj), N ≤ j → H[j]? = some o → H'[j]? = some o) : OwnF N H' v l := by
  rcases h with h | ⟨r, ver, stale, h1, h2, h3⟩
  · exact .inl h
  · exact .inr ⟨r, ver, stale, h1, h2, hE r _ h1 h3⟩
theorem ownF_less {N M : Nat} {H : AH} {v : AV} {l : List AV} (h : OwnF N H v l) (hM : M ≤ N) : OwnF M H v l := by
  rcases h with h | ⟨r, ver, stale, h1, h2, h3⟩
  · exact .inl h
  · exact .inr ⟨r, ver, stale, by omega, h2, h3⟩
/-- A list of one's own, nil when it is empty. -/
def OwnN (N : Nat) (H : AH) (v : AV) (l : List Int) : Prop := (l = [] → v = .slice none 0 0 0 1 false) ∧ OwnF N H v (l.map (.int .i64))
set_option maxRecDepth 100000 in
theorem list_ac (S : Nat → Bool) (H : AH) (Q : AV → AH → Prop) (h : ∀ v' H', OwnN H.length H' v' (num S) → Ext H H' → Q v' H') : AC Try.prog 55 [.agg (bA S)] H Q := by
  refine L_body 18 Try.func55 rfl rfl ?_
  refine L_reg [1] (fun K hK => ?_)
  simp [AV.isU, acells]
  apply hK; clear hK K
  have h1 : (H ++ [AObj.row (bA S) 0 0 false])[H.length]? = some (.row (bA S) 0 0 false) := by simp
  have hE : Ext H (H ++ [AObj.row (bA S) 0 0 false]) := .push _ _
  generalize H ++ [AObj.row (bA S) 0 0 false] = H1 at h1 hE ⊢
  have a0 := ldn_b h1
  refine L_reg [1, 3] (fun K hK => ?_)
  simp
  apply hK; clear hK K
  refine L_reg [3, 6, 7] (fun K hK => ?_)
  simp [a0]
  apply hK; clear hK K
  refine L_block (L_loopV [3, 7] (fun q vs H' => ∃ (i : Nat) (u : AV), q = 25 - i ∧ i ≤ 25 ∧ vs = [u, .int .i64 i] ∧ Ext H H' ∧ OwnN H.length H' u (numT i S)) _ [.slice none 0 0 0 1 false, .int .i64 (0 : Nat)] rfl ⟨0, _, rfl, by omega, rfl, hE, fun _ => rfl, OwnF.nil _ _⟩ ?_)
  clear h1 hE a0 H1
  rintro q _ H1 ⟨i, u, rfl, hi, rfl, hE, hN, hO⟩
  refine L_reg [3, 6, 7, 8] (fun K hK => ?_)
  simp
  apply hK; clear hK K
  refine L_dec (i < 25) (by simp; omega) (fun hlt => ?_) (fun hge => L_exit ?_)
  · refine L_block ?_
    have a2 := ix79 (S := S) hlt
    have hsu := numT_succ i S
    have hll : (numT i S).length ≤ 25 := by
      unfold numT
      rw [List.length_map]
      exact Nat.le_trans (List.length_filter_le ..) (by simp; omega)
    refine L_reg [3, 4, 5, 6, 7] (fun K hK => ?_)
    simp [a2]
    apply hK; clear hK K
    refine L_reg [3, 4, 6, 7, 11] (fun K hK => ?_)
    simp
    apply hK; clear hK K
    cases hb : S i with
    | true =>
      rw [hb, if_pos rfl] at hsu
      obtain ⟨u', H3, happ, hO3, hE3⟩ := ownF_append (P := Try.prog) hE el22 el22 (x := .int .i64 i) (m := 1) hO rfl (by simp; omega)
      refine L_true (by simp) ?_
      refine L_reg [3, 6, 7] (fun K hK => ?_)
      simp [happ]
      apply hK; clear hK K
      refine L_reg [3, 6, 7] (fun K hK => ?_)
      simp [wrap_i64 (a := (i : Int) + 1) (by omega)]
      apply hK; clear hK K
      refine ⟨25 - (i + 1), [u', .int .i64 (i + 1 : Nat)], by omega, by simp, i + 1, u', rfl, by omega, rfl, hE3, fun h0 => ?_, ?_⟩
      · rw [hsu] at h0; simp at h0
      · rw [hsu]
        simpa using hO3
    | false =>
      rw [hb, if_neg (by decide), List.append_nil] at hsu
      refine L_false (by simp) ?_
      refine L_reg [3, 6, 7] (fun K hK => ?_)
      simp [wrap_i64 (a := (i : Int) + 1) (by omega)]
      apply hK; clear hK K
      exact ⟨25 - (i + 1), [u, .int .i64 (i + 1 : Nat)], by omega, by simp, i + 1, u, rfl, by omega, rfl, hE, fun h0 => hN (by rw [← hsu]; exact h0), by rw [hsu]; exact hO⟩
  · obtain rfl : i = 25 := by omega
    rw [num_all] at hO hN
    refine L_reg [2] (fun K hK => ?_)
    simp
    apply hK; clear hK K
    exact L_ret ⟨.inr rfl, _, rfl, h _ _ ⟨hN, hO⟩ hE⟩
/-- What grows, so far. -/
def nxp (r c k : Nat) (O S : Nat → Bool) (i b : Nat) : Bool := S b || (decide (b < i) && (O b && decide (k ≤ bes r c S b)))
theorem nxp_zero (r c k : Nat) (O S : Nat → Bool) : nxp r c k O S 0 = S := by funext b; simp [nxp]
theorem nxp_all (r c k : Nat) (O S : Nat → Bool) : nxp r c k O S (r * c) = nxt r c k O S := rfl
theorem nxp_succ_t {r c k i : Nat} {O S : Nat → Bool} (h : (O i && decide (k ≤ bes r c S i)) = true) : upd (nxp r c k O S i) i true = nxp r c k O S (i + 1) := by
  funext b
  unfold upd nxp
  by_cases hb : b = i
  · subst hb; rw [if_pos rfl, h]; simp
  · rw [if_neg hb]
    have : (decide (b < i)) = decide (b < i + 1) := by congr 1; simp; omega
    rw [this]
theorem nxp_succ_f {r c k i : Nat} {O S : Nat → Bool} (h : (O i && decide (k ≤ bes r c S i)) = false) : nxp r c k O S i = nxp r c k O S (i + 1) := by
  funext b
  unfold nxp
  by_cases hb : b = i
  · subst hb; rw [h]; simp
  · have : (decide (b < i)) = decide (b < i + 1) := by congr 1; simp; omega
    rw [this]
set_option maxRecDepth 100000 in
theorem grown_q {r c n : Nat} (hs : Sd r c) (hn : r * c = n) (k : Nat) (S O : Nat → Bool) (H : AH) (Q : AV → AH → Prop) (h : Q (.agg (bA (nxt r c k O S))) H) : AC Try.prog 88 [.agg [.int .i64 r, .int .i64 c], .agg (bA S), .agg (bA O), .int .i64 k] H Q := by
  refine AC.quiet (belB_m _ _) (fun Q h => ?_) Q h
  have h25 := hs.le
  rw [← nxp_all] at h
  rw [hn] at h h25
  refine L_body 32 Try.func88 rfl rfl ?_
  obtain ⟨I, hI, hz⟩ := zeroT_some zt79'
  refine L_reg [3, 4, 5, 6, 8] (fun K hK => ?_)
  simp [AV.isU, acells, hI, hz]
  apply hK; clear hK K
  have h4 : (H ++ [AObj.row [.int .i64 r, .int .i64 c] 0 0 false, AObj.row (bA S) 0 0 false, AObj.row (bA O) 0 0 false, AObj.row (bA none') 0 0 false])[H.length]? = some (.row [.int .i64 r, .int .i64 c] 0 0 false) := by simp
  have h5 : (H ++ [AObj.row [.int .i64 r, .int .i64 c] 0 0 false, AObj.row (bA S) 0 0 false, AObj.row (bA O) 0 0 false, AObj.row (bA none') 0 0 false])[H.length + 1]? = some (.row (bA S) 0 0 false) := by simp
  have h6 : (H ++ [AObj.row [.int .i64 r, .int .i64 c] 0 0 false, AObj.row (bA S) 0 0 false, AObj.row (bA O) 0 0 false, AObj.row (bA none') 0 0 false])[H.length + 2]? = some (.row (bA O) 0 0 false) := by simp
  have h8 : (H ++ [AObj.row [.int .i64 r, .int .i64 c] 0 0 false, AObj.row (bA S) 0 0 false, AObj.row (bA O) 0 0 false, AObj.row (bA none') 0 0 false])[H.length + 3]? = some (.row (bA none') 0 0 false) := by simp
  have hl1 : (H ++ [AObj.row [.int .i64 r, .int .i64 c] 0 0 false, AObj.row (bA S) 0 0 false, AObj.row (bA O) 0 0 false, AObj.row (bA none') 0 0 false]).length = H.length + 4 := by simp
  have hE : Ext H (H ++ [AObj.row [.int .i64 r, .int .i64 c] 0 0 false, AObj.row (bA S) 0 0 false, AObj.row (bA O) 0 0 false, AObj.row (bA none') 0 0 false]) := .push _ _
  generalize H ++ [AObj.row [.int .i64 r, .int .i64 c] 0 0 false, AObj.row (bA S) 0 0 false, AObj.row (bA O) 0 0 false, AObj.row (bA none') 0 0 false] = H1 at h4 h5 h6 h8 hl1 hE ⊢
  have a5 := ldn_b h5
  have a4 := ldn_f h4
  have hst0 : storeV Try.prog 79 (H1 ++ [AObj.row (bA none') 0 0 false]) (.ptr H1.length 0 0) (.agg (bA S)) = some (none, H1 ++ [AObj.row (bA S) 0 0 false]) := by
    rw [st_m (S := none') (s := 0) (by simp)]
    simp
  refine L_reg [3, 4, 5, 6, 8, 9] (fun K hK => ?_)
  simp [a5, hI, hz, hst0]
  apply hK; clear hK K
  have h9 : (H1 ++ [AObj.row (bA S) 0 0 false])[H.length + 4]? = some (.row (bA S) 0 0 false) := by rw [← hl1]; simp
  have hE2 : Ext H1 (H1 ++ [AObj.row (bA S) 0 0 false]) := .push _ _
  replace h4 := hE2.row h4
  replace h5 := hE2.row h5
  replace h6 := hE2.row h6
  replace h8 := hE2.row h8
  replace hE := hE.trans hE2
  rw [hl1]
  clear hst0 a4 a5 hE2
  generalize H1 ++ [AObj.row (bA S) 0 0 false] = H2 at h4 h5 h6 h8 h9 hE ⊢
  have a4 := ldn_f h4
  refine L_reg [3, 4, 5, 6, 8, 9, 13, 14] (fun K hK => ?_)
  simp [okFn_low, a4]
  refine size_q hs hn _ _ ?_
  simp
  apply hK; clear hK K
  refine L_block (L_loopV [14] (fun q vs H' => ∃ (i s : Nat), q = n - i ∧ i ≤ n ∧ vs = [.int .i64 i] ∧ Ext H H' ∧ H'[H.length]? = some (.row [.int .i64 r, .int .i64 c] 0 0 false) ∧ H'[H.length + 1]? = some (.row (bA S) 0 0 false) ∧ H'[H.length + 2]? = some (.row (bA O) 0 0 false) ∧ H'[H.length + 3]? = some (.row (bA none') 0 0 false) ∧ H'[H.length + 4]? = some (.row (bA (nxp r c k O S i)) 0 s false)) _ [.int .i64 (0 : Nat)] rfl ⟨0, 0, rfl, by omega, rfl, hE, h4, h5, h6, h8, by rw [nxp_zero]; exact h9⟩ ?_)
  clear h4 h5 h6 h8 h9 hE a4 H2
  rintro q _ H1 ⟨i, s, rfl, hi, rfl, hE, h4, h5, h6, h8, h9⟩
  refine L_reg [3, 4, 5, 6, 8, 9, 13, 14, 15] (fun K hK => ?_)
  simp
  apply hK; clear hK K
  refine L_dec (i < n) (by simp) (fun hlt => ?_) (fun hge => L_exit ?_)
  · refine L_block ?_
    have hi25 : i < 25 := by omega
    have hii : (i : Int) < 25 := by omega
    have a4 := ldn_f h4
    have a5 := ldn_b h5
    have a6 := ld_b h6 hi25
    have hst := st_b (v := true) h9 hi25
    refine L_reg [3, 4, 5, 6, 8, 9, 10, 13, 14] (fun K hK => ?_)
    simp
    apply hK; clear hK K
    obtain ⟨t, ht⟩ : ∃ t, (O i && decide (k ≤ bes r c S i)) = t := ⟨_, rfl⟩
    refine L_reg [3, 4, 5, 6, 8, 9, 10, 13, 14, 27] (fun K hK => ?_)
    suffices hk : K [(3, .int .i64 k), (4, .ptr H.length 0 0), (5, .ptr (H.length + 1) 0 0), (6, .ptr (H.length + 2) 0 0), (8, .ptr (H.length + 3) 0 0), (9, .ptr (H.length + 4) 0 0), (10, .int .i64 i), (13, .int .i64 n), (14, .int .i64 i), (27, .bool t)] H1 by
      cases ho : O i with
      | false =>
        rw [ho, Bool.false_and] at ht
        subst ht
        simp [hii, a6, ho, pickV]
        exact hk
      | true =>
        rw [ho, Bool.true_and] at ht
        subst ht
        simp [okFn_low, hii, a6, ho, a4, a5]
        refine beside_q hs i (by omega) S _ _ ?_
        simp [pickV]
        exact hk
    apply hK; clear hK K
    cases t with
    | true =>
      rw [nxp_succ_t ht] at hst
      refine L_true (by simp) ?_
      refine L_reg [3, 4, 5, 6, 8, 9, 13, 14] (fun K hK => ?_)
      simp [hii, hst]
      apply hK; clear hK K
      refine L_reg [3, 4, 5, 6, 8, 9, 13, 14] (fun K hK => ?_)
      simp [wrap_i64 (a := (i : Int) + 1) (by omega)]
      apply hK; clear hK K
      refine ⟨n - (i + 1), [.int .i64 (i + 1 : Nat)], by omega, by simp, i + 1, min s i, rfl, by omega, rfl, hE.set _ (by omega), ?_, ?_, ?_, ?_, get_set h9⟩
      · rw [List.getElem?_set_ne (by omega)]; exact h4
      · rw [List.getElem?_set_ne (by omega)]; exact h5
      · rw [List.getElem?_set_ne (by omega)]; exact h6
      · rw [List.getElem?_set_ne (by omega)]; exact h8
    | false =>
      rw [nxp_succ_f ht] at h9
      refine L_false (by simp) ?_
      refine L_reg [3, 4, 5, 6, 8, 9, 13, 14] (fun K hK => ?_)
      simp [wrap_i64 (a := (i : Int) + 1) (by omega)]
      apply hK; clear hK K
      exact ⟨n - (i + 1), [.int .i64 (i + 1 : Nat)], by omega, by simp, i + 1, s, rfl, by omega, rfl, hE, h4, h5, h6, h8, h9⟩
  · obtain rfl : i = n := by omega
    have l := ldn_b h9
    have hst := st_m (T := nxp r c k O S i) h8
    refine L_reg [8] (fun K hK => ?_)
    simp [l, hst]
    apply hK; clear hK K
    refine L_ret ⟨.inr rfl, _, res_cell rfl ?_, h _ (hE.set _ (by omega))⟩
    simp [ldn_b (get_set h8)]
end Go.Proofs.Ytfbpgnjeafadmaa.Fl

/- Outlines, what is reached, open bales, and the spread. -/
namespace Go.Proofs.Ytfbpgnjeafadmaa.Fl
open Go Go.Proofs.Ytfbpgnjeafadmaa Go.Proofs.Ytfbpgnjeafadmaa.AX

def sideS (r c : Nat) (S : Nat → Bool) (b : Int) : Int := 4 - (bes r c S b.toNat : Nat)
def ol (r c : Nat) (S : Nat → Bool) : Int := ((num S).map (sideS r c S)).sum
def olT (r c : Nat) (S : Nat → Bool) (l : List Int) (i : Nat) : Int := ((l.take i).map (sideS r c S)).sum
theorem num_at {S : Nat → Bool} {i : Nat} (h : i < (num S).length) : ∃ b : Nat, g (num S) i = b ∧ b < 25 ∧ S b = true := by
  have : g (num S) i ∈ num S := by rw [g_lt h]; simp
  obtain ⟨b, h1, h2, h3⟩ := mem_num.1 this
  exact ⟨b, h3, h1, h2⟩
set_option maxRecDepth 100000 in
theorem reached_q {r c n : Nat} (hs : Sd r c) (hn : r * c = n) (k : Nat) (S O : Nat → Bool) (hS : ∀ b, S b = true → b < n) (H : AH) (Q : AV → AH → Prop) (h : Q (.agg (bA (sp r c k O S))) H) : AC Try.prog 75 [.agg [.int .i64 r, .int .i64 c], .agg (bA S), .agg (bA O), .int .i64 k] H Q := by
  refine AC.quiet (belB_m _ _) (fun Q h => ?_) Q h
  have h25 := hs.le
  refine L_body 20 Try.func75 rfl rfl ?_
  obtain ⟨I, hI, hz⟩ := zeroT_some zt79'
  refine L_reg [3, 4, 5, 6, 8] (fun K hK => ?_)
  simp [AV.isU, acells, hI, hz]
  apply hK; clear hK K
  have h4 : (H ++ [AObj.row [.int .i64 r, .int .i64 c] 0 0 false, AObj.row (bA S) 0 0 false, AObj.row (bA O) 0 0 false, AObj.row (bA none') 0 0 false])[H.length]? = some (.row [.int .i64 r, .int .i64 c] 0 0 false) := by simp
  have h5 : (H ++ [AObj.row [.int .i64 r, .int .i64 c] 0 0 false, AObj.row (bA S) 0 0 false, AObj.row (bA O) 0 0 false, AObj.row (bA none') 0 0 false])[H.length + 1]? = some (.row (bA S) 0 0 false) := by simp
  have h6 : (H ++ [AObj.row [.int .i64 r, .int .i64 c] 0 0 false, AObj.row (bA S) 0 0 false, AObj.row (bA O) 0 0 false, AObj.row (bA none') 0 0 false])[H.length + 2]? = some (.row (bA O) 0 0 false) := by simp
  have h8 : (H ++ [AObj.row [.int .i64 r, .int .i64 c] 0 0 false, AObj.row (bA S) 0 0 false, AObj.row (bA O) 0 0 false, AObj.row (bA none') 0 0 false])[H.length + 3]? = some (.row (bA none') 0 0 false) := by simp
  have hE : Ext H (H ++ [AObj.row [.int .i64 r, .int .i64 c] 0 0 false, AObj.row (bA S) 0 0 false, AObj.row (bA O) 0 0 false, AObj.row (bA none') 0 0 false]) := .push _ _
  generalize H ++ [AObj.row [.int .i64 r, .int .i64 c] 0 0 false, AObj.row (bA S) 0 0 false, AObj.row (bA O) 0 0 false, AObj.row (bA none') 0 0 false] = H1 at h4 h5 h6 h8 hE ⊢
  have hl : H.length + 4 ≤ H1.length := by
    have := (List.getElem?_eq_some_iff.1 h8).1
    omega
  refine L_block (L_loopV [] (fun q vs H' => ∃ t : Nat, q = n + 1 - t ∧ t ≤ n ∧ vs = [] ∧ Ext H H' ∧ H.length + 4 ≤ H'.length ∧ H'[H.length]? = some (.row [.int .i64 r, .int .i64 c] 0 0 false) ∧ H'[H.length + 1]? = some (.row (bA (D r c k O S t)) 0 0 false) ∧ H'[H.length + 2]? = some (.row (bA O) 0 0 false) ∧ H'[H.length + 3]? = some (.row (bA none') 0 0 false)) _ [] rfl ⟨0, rfl, by omega, rfl, hE, hl, h4, h5, h6, h8⟩ ?_)
  clear h4 h5 h6 h8 hE hl H1
  rintro q _ H1 ⟨t, rfl, ht, rfl, hE, hl, h4, h5, h6, h8⟩
  refine L_block ?_
  have a4 := ldn_f h4
  have a5 := ldn_b h5
  have a6 := ldn_b h6
  have hst0 : storeV Try.prog 79 (H1 ++ [AObj.row (bA none') 0 0 false]) (.ptr H1.length 0 0) (.agg (bA (D r c k O S (t + 1)))) = some (none, H1 ++ [AObj.row (bA (D r c k O S (t + 1))) 0 0 false]) := by
    rw [st_m (S := none') (s := 0) (by simp)]
    simp
  refine L_reg [3, 4, 5, 6, 8, 9] (fun K hK => ?_)
  simp [okFn_low, a4, a5, a6]
  refine grown_q hs hn k _ _ _ _ ?_
  simp [← D_succ, hI, hz, hst0]
  apply hK; clear hK K
  have h9 : (H1 ++ [AObj.row (bA (D r c k O S (t + 1))) 0 0 false])[H1.length]? = some (.row (bA (D r c k O S (t + 1))) 0 0 false) := by simp
  have hE2 : Ext H1 (H1 ++ [AObj.row (bA (D r c k O S (t + 1))) 0 0 false]) := .push _ _
  have hL2 : (H1 ++ [AObj.row (bA (D r c k O S (t + 1))) 0 0 false]).length = H1.length + 1 := by simp
  replace h4 := hE2.row h4
  replace h5 := hE2.row h5
  replace h6 := hE2.row h6
  replace h8 := hE2.row h8
  replace hE := hE.trans hE2
  obtain ⟨w, hw⟩ : ∃ w, H1.length = w := ⟨_, rfl⟩
  rw [hw] at h9 hL2 hl ⊢
  clear hst0 a4 a5 a6 hE2
  generalize H1 ++ [AObj.row (bA (D r c k O S (t + 1))) 0 0 false] = H2 at h4 h5 h6 h8 h9 hE hL2 ⊢
  have a5 := ldn_b h5
  have a9 := ldn_b h9
  refine L_reg [3, 4, 5, 6, 8, 9, 17] (fun K hK => ?_)
  simp [a9, a5, b_eqB]
  apply hK; clear hK K
  refine L_split rfl (fun hx => ?_) (fun hx => ?_)
  · have hx : ((List.range 25).all fun i => D r c k O S (t + 1) i == D r c k O S t i) = true := by simpa using hx
    have he : D r c k O S (t + 1) = D r c k O S t := by
      funext b
      by_cases hb : b < 25
      · exact all_eq.1 hx b hb
      · have f : ∀ u, D r c k O S u b = false := fun u => by
          cases hd : D r c k O S u b with
          | false => rfl
          | true => have := D_sup (by rw [hn]; exact hS) u b hd; omega
        rw [f, f]
    rw [sp_stop (by rw [hn]; exact hS) he] at h5 a5
    have hst := st_m (T := sp r c k O S) h8
    refine L_reg [8] (fun K hK => ?_)
    simp [a5, hst]
    apply hK; clear hK K
    refine L_ret ⟨.inr rfl, _, res_cell rfl ?_, h _ (hE.set _ (by omega))⟩
    simp [ldn_b (get_set h8)]
  · have hx : ¬ ((List.range 25).all fun i => D r c k O S (t + 1) i == D r c k O S t i) = true := by simpa using hx
    have htn : t ≠ n := by
      intro h0
      apply hx
      rw [all_eq]
      intro b _
      rw [h0, ← hn, D_fix (by rw [hn]; exact hS)]
    have hst := st_m (T := D r c k O S (t + 1)) h5
    refine L_reg [3, 4, 5, 6, 8] (fun K hK => ?_)
    simp [a9, hst]
    apply hK; clear hK K
    refine ⟨n + 1 - (t + 1), [], by omega, by simp, t + 1, rfl, by omega, rfl, hE.set _ (by omega), by simp; omega, ?_, get_set h5, ?_, ?_⟩
    · rw [List.getElem?_set_ne (by omega)]; exact h4
    · rw [List.getElem?_set_ne (by omega)]; exact h6
    · rw [List.getElem?_set_ne (by omega)]; exact h8
end Go.Proofs.Ytfbpgnjeafadmaa.Fl

/- A store is checked. -/
namespace Go.Proofs.Ytfbpgnjeafadmaa.Fl
open Go Go.Proofs.Ytfbpgnjeafadmaa Go.Proofs.Ytfbpgnjeafadmaa.AX

theorem res_cell_tmp {P : Program} {fn : Func} {e : Env} {H : AH} {a b : Tmp} {t : TypeId} {v u : AV} (hr : fn.results = #[.cell a t, .tmp b]) (hv : loadV P t H (eget e a) = some v) (hb : eget e b = u) : aResults P fn e H = some (.tuple [v, u]) := by
  have h1 : aRes1 P e H (.cell a t) = some v := hv
  have h2 : aRes1 P e H (.tmp b) = some u := by simp [aRes1, hb]
  simp [aResults, hr, aResList, h1, h2]
def colS (n : Nat) (T : Nat → Bool) : (Nat → Bool) → List Int → (Nat → Bool) × Int
  | S, [] => (S, 0)
  | S, x :: l => if x < 0 ∨ (n : Int) ≤ x then (none', 2) else if S x.toNat = true then (none', 6) else if T x.toNat = true then (none', 13) else colS n T (upd S x.toNat true) l
theorem bd79 : aBuilt Try.prog 79 [] = some (bA none') := by kernel_rfl
theorem belB_me (N : Nat) (S : Nat → Bool) (k : IntKind) (e : Int) : belB N 4 (.tuple [.agg (bA S), .int k e]) = true := by
  simp only [belB, List.all_cons, List.all_nil, Bool.and_true, List.all_eq_true]
  intro v hv
  obtain ⟨y, -, rfl⟩ := List.mem_map.1 hv
  exact belB_bool _ _ _
set_option maxRecDepth 100000 in
theorem collect_q {r c n : Nat} (hs : Sd r c) (hn : r * c = n) (T : Nat → Bool) (u : AV) (l : List Int) (H : AH) (Q : AV → AH → Prop) (hu : Ls H u l) (hlen : l.length ≤ 1000000) (h : Q (.tuple [.agg (bA (colS n T none' l).1), .int .i64 (colS n T none' l).2]) H) : AC Try.prog 87 [.agg [.int .i64 r, .int .i64 c], u, .agg (bA T)] H Q := by
  refine AC.quiet (belB_me _ _ _ _) (fun Q h => ?_) Q h
  have h25 := hs.le
  rw [hn] at h25
  refine L_body 34 Try.func87 rfl rfl ?_
  obtain ⟨I, hI, hz⟩ := zeroT_some zt79'
  refine L_reg [1, 3, 5, 6] (fun K hK => ?_)
  simp [AV.isU, acells, hI, hz]
  apply hK; clear hK K
  refine L_reg [1, 3, 5, 6, 8] (fun K hK => ?_)
  simp [hI, hz]
  apply hK; clear hK K
  have h3 : (H ++ [AObj.row [.int .i64 r, .int .i64 c] 0 0 false, AObj.row (bA T) 0 0 false, AObj.row (bA none') 0 0 false, AObj.row (bA none') 0 0 false])[H.length]? = some (.row [.int .i64 r, .int .i64 c] 0 0 false) := by simp
  have h5 : (H ++ [AObj.row [.int .i64 r, .int .i64 c] 0 0 false, AObj.row (bA T) 0 0 false, AObj.row (bA none') 0 0 false, AObj.row (bA none') 0 0 false])[H.length + 1]? = some (.row (bA T) 0 0 false) := by simp
  have h6 : (H ++ [AObj.row [.int .i64 r, .int .i64 c] 0 0 false, AObj.row (bA T) 0 0 false, AObj.row (bA none') 0 0 false, AObj.row (bA none') 0 0 false])[H.length + 2]? = some (.row (bA none') 0 0 false) := by simp
  have h8 : (H ++ [AObj.row [.int .i64 r, .int .i64 c] 0 0 false, AObj.row (bA T) 0 0 false, AObj.row (bA none') 0 0 false, AObj.row (bA none') 0 0 false])[H.length + 3]? = some (.row (bA none') 0 0 false) := by simp
  have hE : Ext H (H ++ [AObj.row [.int .i64 r, .int .i64 c] 0 0 false, AObj.row (bA T) 0 0 false, AObj.row (bA none') 0 0 false, AObj.row (bA none') 0 0 false]) := .push _ _
  generalize H ++ [AObj.row [.int .i64 r, .int .i64 c] 0 0 false, AObj.row (bA T) 0 0 false, AObj.row (bA none') 0 0 false, AObj.row (bA none') 0 0 false] = H1 at h3 h5 h6 h8 hE ⊢
  have hvl := ls_len (hu.ext hE)
  refine L_reg [3, 5, 6, 8, 11, 12, 13] (fun K hK => ?_)
  simp [hvl]
  apply hK; clear hK K
  refine L_block (L_loopV [13] (fun q vs H' => ∃ (i s : Nat) (S : Nat → Bool), q = l.length - i ∧ i ≤ l.length ∧ vs = [.int .i64 i] ∧ Ext H H' ∧ H'[H.length]? = some (.row [.int .i64 r, .int .i64 c] 0 0 false) ∧ H'[H.length + 1]? = some (.row (bA T) 0 0 false) ∧ H'[H.length + 2]? = some (.row (bA none') 0 0 false) ∧ H'[H.length + 3]? = some (.row (bA S) 0 s false) ∧ colS n T S (l.drop i) = colS n T none' l) _ [.int .i64 (0 : Nat)] rfl ⟨0, 0, none', rfl, by omega, rfl, hE, h3, h5, h6, h8, rfl⟩ ?_)
  clear h3 h5 h6 h8 hE hvl H1
  rintro q _ H1 ⟨i, s, S, rfl, hi, rfl, hE, h3, h5, h6, h8, hc⟩
  refine L_reg [3, 5, 6, 8, 11, 12, 13, 14] (fun K hK => ?_)
  simp
  apply hK; clear hK K
  refine L_dec (i < l.length) (by simp) (fun hlt => ?_) (fun hge => L_exit ?_)
  · refine L_block ?_
    obtain ⟨rz, pz, vz, hix, hldz⟩ := ls_ix (hu.ext hE) hlt
    have a3 := ldn_f h3
    rw [List.drop_eq_getElem_cons hlt, ← g_lt hlt] at hc
    obtain ⟨x, hx⟩ : ∃ x, g l i = x := ⟨_, rfl⟩
    rw [hx] at hldz hc
    simp only [colS] at hc
    refine L_reg [3, 5, 6, 8, 10, 11, 12, 13] (fun K hK => ?_)
    simp [hix, hldz]
    apply hK; clear hK K
    refine L_reg [3, 5, 6, 8, 10, 11, 12, 13, 20] (fun K hK => ?_)
    simp [okFn_low, a3]
    refine has_q hs hn x _ _ ?_
    simp
    apply hK; clear hK K
    by_cases hin : 0 ≤ x ∧ x < n
    case neg =>
      rw [if_pos (by omega)] at hc
      have hst := st_m (T := none') h6
      refine L_true (by simp; omega) ?_
      rw [← hc] at h
      refine L_reg [6, 7] (fun K hK => ?_)
      simp [bd79, hst]
      apply hK; clear hK K
      refine L_ret ⟨.inr rfl, _, res_cell_tmp rfl ?_ rfl, h _ (hE.set _ (by omega))⟩
      simp [ldn_b (get_set h6)]
    obtain ⟨b, rfl⟩ : ∃ b : Nat, x = b := ⟨x.toNat, by omega⟩
    rw [if_neg (by omega), Int.toNat_natCast] at hc
    have hb25 : b < 25 := by omega
    have hbi : (b : Int) < 25 := by omega
    have a8 := ld_b h8 hb25
    have a5 := ld_b h5 hb25
    refine L_false (by simp; omega) ?_
    refine L_reg [3, 5, 6, 8, 10, 11, 12, 13, 24] (fun K hK => ?_)
    simp [hbi, a8]
    apply hK; clear hK K
    cases hSb : S b with
    | true =>
      rw [if_pos hSb] at hc
      have hst := st_m (T := none') h6
      refine L_true (by simp) ?_
      rw [← hc] at h
      refine L_reg [6, 7] (fun K hK => ?_)
      simp [bd79, hst]
      apply hK; clear hK K
      refine L_ret ⟨.inr rfl, _, res_cell_tmp rfl ?_ rfl, h _ (hE.set _ (by omega))⟩
      simp [ldn_b (get_set h6)]
    | false =>
      rw [if_neg (by simp [hSb])] at hc
      refine L_false (by simp) ?_
      refine L_reg [3, 5, 6, 8, 10, 11, 12, 13, 28] (fun K hK => ?_)
      simp [hbi, a5]
      apply hK; clear hK K
      cases hTb : T b with
      | true =>
        rw [if_pos hTb] at hc
        have hst := st_m (T := none') h6
        refine L_true (by simp) ?_
        rw [← hc] at h
        refine L_reg [6, 7] (fun K hK => ?_)
        simp [bd79, hst]
        apply hK; clear hK K
        refine L_ret ⟨.inr rfl, _, res_cell_tmp rfl ?_ rfl, h _ (hE.set _ (by omega))⟩
        simp [ldn_b (get_set h6)]
      | false =>
        rw [if_neg (by simp [hTb])] at hc
        have hst := st_b (v := true) h8 hb25
        refine L_false (by simp) ?_
        refine L_reg [3, 5, 6, 8, 11, 12, 13] (fun K hK => ?_)
        simp [hbi, hst]
        apply hK; clear hK K
        refine L_reg [3, 5, 6, 8, 11, 12, 13] (fun K hK => ?_)
        simp [wrap_i64 (a := (i : Int) + 1) (by omega)]
        apply hK; clear hK K
        refine ⟨l.length - (i + 1), [.int .i64 (i + 1 : Nat)], by omega, by simp, i + 1, min s b, upd S b true, rfl, by omega, rfl, hE.set _ (by omega), ?_, ?_, ?_, get_set h8, hc⟩
        · rw [List.getElem?_set_ne (by omega)]; exact h3
        · rw [List.getElem?_set_ne (by omega)]; exact h5
        · rw [List.getElem?_set_ne (by omega)]; exact h6
  · obtain rfl : i = l.length := by omega
    rw [List.drop_length] at hc
    simp only [colS] at hc
    rw [← hc] at h
    have l8 := ldn_b h8
    have hst := st_m (T := S) h6
    refine L_reg [6, 7] (fun K hK => ?_)
    simp [l8, hst]
    apply hK; clear hK K
    refine L_ret ⟨.inr rfl, _, res_cell_tmp rfl ?_ rfl, h _ (hE.set _ (by omega))⟩
    simp [ldn_b (get_set h6)]
theorem checkSides_q (m n : Int) (H : AH) (Q : AV → AH → Prop) (h : Q (.int .i64 (if (1 ≤ m ∧ m ≤ 5) ∧ 1 ≤ n ∧ n ≤ 5 then 0 else 1)) H) : AC Try.prog 71 [.int .i64 m, .int .i64 n] H Q := by
  refine L_body 19 Try.func71 rfl rfl ?_
  refine L_reg [0, 1] (fun K hK => ?_)
  simp
  apply hK; clear hK K
  by_cases c1 : m < 1
  · rw [if_neg (by omega)] at h
    refine L_reg [18] (fun K hK => ?_)
    simp [c1, pickV]
    apply hK; clear hK K
    refine L_true (by simp) ?_
    refine L_reg [4] (fun K hK => ?_)
    simp
    apply hK; clear hK K
    exact L_ret ⟨.inr rfl, _, rfl, h⟩
  · by_cases c2 : 5 < m
    · rw [if_neg (by omega)] at h
      refine L_reg [18] (fun K hK => ?_)
      simp [c1, c2, pickV]
      apply hK; clear hK K
      refine L_true (by simp) ?_
      refine L_reg [4] (fun K hK => ?_)
      simp
      apply hK; clear hK K
      exact L_ret ⟨.inr rfl, _, rfl, h⟩
    · by_cases c3 : n < 1
      · rw [if_neg (by omega)] at h
        refine L_reg [18] (fun K hK => ?_)
        simp [c1, c2, c3, pickV]
        apply hK; clear hK K
        refine L_true (by simp) ?_
        refine L_reg [4] (fun K hK => ?_)
        simp
        apply hK; clear hK K
        exact L_ret ⟨.inr rfl, _, rfl, h⟩
      · by_cases c4 : 5 < n
        · rw [if_neg (by omega)] at h
          refine L_reg [18] (fun K hK => ?_)
          simp [c1, c2, c3, c4, pickV]
          apply hK; clear hK K
          refine L_true (by simp) ?_
          refine L_reg [4] (fun K hK => ?_)
          simp
          apply hK; clear hK K
          exact L_ret ⟨.inr rfl, _, rfl, h⟩
        · rw [if_pos (by omega)] at h
          refine L_reg [18] (fun K hK => ?_)
          simp [c1, c2, c3, c4, pickV]
          apply hK; clear hK K
          refine L_false (by simp) ?_
          refine L_reg [4] (fun K hK => ?_)
          simp
          apply hK; clear hK K
          exact L_ret ⟨.inr rfl, _, rfl, h⟩
/-- A field. -/
def fl (r c : Nat) (S Z : Nat → Bool) : List AV := .int .i64 r :: .int .i64 c :: (bA S ++ bA Z)
theorem bd81 (r c : Nat) (S Z : Nat → Bool) : aBuilt Try.prog 81 [(0, .agg [.int .i64 r, .int .i64 c]), (1, .agg (bA S)), (2, .agg (bA Z))] = some (fl r c S Z) := by kernel_rfl
theorem bd81z : aBuilt Try.prog 81 [] = some (fl 0 0 none' none') := by kernel_rfl
theorem zt81' : zeroT Try.prog 81 = some (fl 0 0 none' none') := by rw [zt81]; rfl
theorem fl_len (r c : Nat) (S Z : Nat → Bool) : (fl r c S Z).length = 52 := by simp [fl, bA_len]
theorem fl_one (r c : Nat) (S Z : Nat → Bool) : ∀ v ∈ fl r c S Z, v.one = true := by
  intro v hv
  simp only [fl, List.mem_cons, List.mem_append] at hv
  rcases hv with rfl | rfl | hv | hv
  · rfl
  · rfl
  · exact bA_one S v hv
  · exact bA_one Z v hv
theorem fl_known (r c : Nat) (S Z : Nat → Bool) : ∀ v ∈ fl r c S Z, v ≠ .undef := fun v hv => one_known (fl_one r c S Z v hv)
theorem fl_all (N r c : Nat) (S Z : Nat → Bool) (d : Nat) : (fl r c S Z).all (belB N d) = true := by
  rw [List.all_eq_true]
  intro v hv
  simp only [fl, List.mem_cons, List.mem_append] at hv
  rcases hv with rfl | rfl | hv | hv
  · exact belB_int ..
  · exact belB_int ..
  · obtain ⟨y, -, rfl⟩ := List.mem_map.1 hv
    exact belB_bool ..
  · obtain ⟨y, -, rfl⟩ := List.mem_map.1 hv
    exact belB_bool ..
theorem belB_fe (N r c : Nat) (S Z : Nat → Bool) (k : IntKind) (e : Int) : belB N 4 (.tuple [.agg (fl r c S Z), .int k e]) = true := by
  simp only [belB, List.all_cons, List.all_nil, Bool.and_true]
  exact fl_all ..
section
variable {H : AH} {p s r c : Nat} {S Z S' Z' : Nat → Bool} {ro : Bool}
theorem take_pre : ∀ {l m : List AV}, (∀ v ∈ l, v ≠ .undef) → takeKnown l.length (l ++ m) = some l
  | [], _, _ => rfl
  | v :: l, m, h => by
    have h1 : known (some v) = some v := by
      have := h v (by simp)
      cases v <;> simp_all [known]
    rw [List.length_cons, takeKnown_succ, List.cons_append, List.getElem?_cons_zero, h1, List.drop_succ_cons, List.drop_zero, take_pre (fun x hx => h x (by simp [hx]))]
    rfl
theorem ldn_F (hr : H[p]? = some (.row (fl r c S Z) 0 s ro)) : ldn H p 0 52 0 = some (fl r c S Z) := by
  rw [ldn_row hr]
  simpa [fl_len] using take_all (fl_known r c S Z)
theorem ldn_F0 (hr : H[p]? = some (.row (fl r c S Z) 0 s ro)) : ldn H p 0 2 0 = some [.int .i64 r, .int .i64 c] := by
  rw [ldn_row hr]; rfl
theorem ldn_F1 (hr : H[p]? = some (.row (fl r c S Z) 0 s ro)) : ldn H p 0 25 2 = some (bA S) := by
  rw [ldn_row hr]
  have := take_pre (l := bA S) (m := bA Z) (bA_known S)
  rw [bA_len] at this
  simpa [fl] using this
theorem ldn_F2 (hr : H[p]? = some (.row (fl r c S Z) 0 s ro)) : ldn H p 0 25 27 = some (bA Z) := by
  rw [ldn_row hr]
  have := take_all (bA_known Z)
  rw [bA_len] at this
  have e : (fl r c S Z).drop 27 = bA Z := by
    rw [fl, show (27 : Nat) = 25 + 1 + 1 from rfl, List.drop_succ_cons, List.drop_succ_cons]
    rw [List.drop_append_of_le_length (by simp [bA_len]), List.drop_of_length_le (by simp [bA_len]), List.nil_append]
  simpa [e] using this
theorem st_F (hr : H[p]? = some (.row (fl r c S Z) 0 s false)) {r' c' : Nat} : storeV Try.prog 81 H (.ptr p 0 0) (.agg (fl r' c' S' Z')) = some (none, H.set p (.row (fl r' c' S' Z') 0 0 false)) :=
  store_agg ag81 hr (by decide) (fl_len r c S Z) (fl_known r c S Z) (fl_len r' c' S' Z') (fl_one r' c' S' Z')
end
theorem ldn4 {H : AH} {p s : Nat} {ro : Bool} {m k : Int} {u w : AV} (hr : H[p]? = some (.row [.int .i64 m, .int .i64 k, u, w] 0 s ro)) (hu : u ≠ .undef) (hw : w ≠ .undef) : ldn H p 0 4 0 = some [.int .i64 m, .int .i64 k, u, w] := by
  rw [ldn_row hr]
  have := take_all (l := [.int .i64 m, .int .i64 k, u, w]) (by simp [hu, hw])
  simpa using this
theorem ls_known {H : AH} {u : AV} {l : List Int} (h : Ls H u l) : u ≠ .undef := by
  obtain ⟨r, off, ver, sz, full, rfl, -⟩ := h
  simp
end Go.Proofs.Ytfbpgnjeafadmaa.Fl

/- Fields, stores that are checked, and their spread. -/
namespace Go.Proofs.Ytfbpgnjeafadmaa.Fl
open Go Go.Proofs.Ytfbpgnjeafadmaa Go.Proofs.Ytfbpgnjeafadmaa.AX

set_option maxRecDepth 100000
def opn (n : Nat) (Z : Nat → Bool) : Nat → Bool := sub' (lt' n) Z
theorem open_q {r c n : Nat} (hs : Sd r c) (hn : r * c = n) (S Z : Nat → Bool) (H : AH) (Q : AV → AH → Prop) (h : Q (.agg (bA (opn n Z))) H) : AC Try.prog 79 [.agg (fl r c S Z)] H Q := by
  refine AC.quiet (belB_m _ _) (fun Q h => ?_) Q h
  refine L_body 9 Try.func79 rfl rfl ?_
  obtain ⟨I, hI, hz⟩ := zeroT_some zt79'
  refine L_reg [1, 2] (fun K hK => ?_)
  simp [AV.isU, acells, hI, hz]
  apply hK; clear hK K
  have h1 : (H ++ [AObj.row (fl r c S Z) 0 0 false, AObj.row (bA none') 0 0 false])[H.length]? = some (.row (fl r c S Z) 0 0 false) := by simp
  have h2 : (H ++ [AObj.row (fl r c S Z) 0 0 false, AObj.row (bA none') 0 0 false])[H.length + 1]? = some (.row (bA none') 0 0 false) := by simp
  have hE : Ext H (H ++ [AObj.row (fl r c S Z) 0 0 false, AObj.row (bA none') 0 0 false]) := .push _ _
  generalize H ++ [AObj.row (fl r c S Z) 0 0 false, AObj.row (bA none') 0 0 false] = H1 at h1 h2 hE ⊢
  have a1 := ldn_F0 h1
  have a2 := ldn_F2 h1
  have hst := st_m (T := opn n Z) h2
  refine L_regZ mixed [H.length + 1] [0, 0, 0, 0, 1, 0] [] [2] (by kernel_rfl) (fun K hK => ?_)
  simp [okFn_low, a1]
  refine exX_mk (fun Q hQ => all_q hs hn _ Q hQ) (.refl _) ?_
  simp [okFn_low, a2]
  refine exX_mk (fun Q hQ => without_q _ _ _ Q hQ) (.refl _) ?_
  rw [← opn]
  simp [hst]
  apply hK; clear hK K
  refine L_ret ⟨.inr rfl, _, res_cell rfl ?_, h _ (hE.set _ (by omega))⟩
  simp [ldn_b (get_set h2)]
theorem spread_q {r c n : Nat} (hs : Sd r c) (hn : r * c = n) (S Z : Nat → Bool) (hS : ∀ b, S b = true → b < n) (H : AH) (Q : AV → AH → Prop) (h : Q (.agg (bA (sp r c 2 (opn n Z) S))) H) : AC Try.prog 54 [.agg (fl r c S Z)] H Q := by
  refine AC.quiet (belB_m _ _) (fun Q h => ?_) Q h
  refine L_body 10 Try.func54 rfl rfl ?_
  obtain ⟨I, hI, hz⟩ := zeroT_some zt79'
  refine L_reg [1, 2] (fun K hK => ?_)
  simp [AV.isU, acells, hI, hz]
  apply hK; clear hK K
  have h1 : (H ++ [AObj.row (fl r c S Z) 0 0 false, AObj.row (bA none') 0 0 false])[H.length]? = some (.row (fl r c S Z) 0 0 false) := by simp
  have h2 : (H ++ [AObj.row (fl r c S Z) 0 0 false, AObj.row (bA none') 0 0 false])[H.length + 1]? = some (.row (bA none') 0 0 false) := by simp
  have hE : Ext H (H ++ [AObj.row (fl r c S Z) 0 0 false, AObj.row (bA none') 0 0 false]) := .push _ _
  generalize H ++ [AObj.row (fl r c S Z) 0 0 false, AObj.row (bA none') 0 0 false] = H1 at h1 h2 hE ⊢
  have a1 := ldn_F0 h1
  have a2 := ldn_F1 h1
  have a3 := ldn_F h1
  have hst := st_m (T := sp r c 2 (opn n Z) S) h2
  refine L_regZ mixed [H.length + 1] [0, 1, 0, 1, 0, 0, 0] [] [2] (by kernel_rfl) (fun K hK => ?_)
  simp [okFn_low, a1, a2, a3]
  refine exX_mk (fun Q hQ => open_q hs hn S Z _ Q hQ) (.refl _) ?_
  simp [okFn_low]
  refine exX_mk (fun Q hQ => reached_q hs hn 2 S _ hS _ Q hQ) (.refl _) ?_
  simp [hst]
  apply hK; clear hK K
  refine L_ret ⟨.inr rfl, _, res_cell rfl ?_, h _ (hE.set _ (by omega))⟩
  simp [ldn_b (get_set h2)]

def okSides (m n : Int) : Prop := (1 ≤ m ∧ m ≤ 5) ∧ 1 ≤ n ∧ n ≤ 5
instance (m n : Int) : Decidable (okSides m n) := by unfold okSides; infer_instance
theorem okSides.sd {m n : Int} (h : okSides m n) : Sd m.toNat n.toNat := by
  obtain ⟨⟨h1, h2⟩, h3, h4⟩ := h
  exact ⟨by omega, by omega, by omega, by omega⟩
def sickS (m n : Int) (l : List Int) : (Nat → Bool) × Int := colS (m.toNat * n.toNat) none' none' l
def coldS (m n : Int) (l o : List Int) : (Nat → Bool) × Int := colS (m.toNat * n.toNat) (sickS m n l).1 none' o
/-- The error of a store. -/
def chkE (m n : Int) (l o : List Int) : Int := if okSides m n then (if (sickS m n l).2 ≠ 0 then (sickS m n l).2 else (coldS m n l o).2) else 1
def chkF (m n : Int) (l o : List Int) : List AV := if chkE m n l o = 0 then fl m.toNat n.toNat (sickS m n l).1 (coldS m n l o).1 else fl 0 0 none' none'
theorem chkF_belB (N : Nat) (m n : Int) (l o : List Int) (k : IntKind) (e : Int) : belB N 4 (.tuple [.agg (chkF m n l o), .int k e]) = true := by
  unfold chkF
  split <;> exact belB_fe ..
theorem chk_sick {m n : Int} {l o : List Int} (hs : okSides m n) (h0 : (sickS m n l).2 ≠ 0) : chkE m n l o = (sickS m n l).2 ∧ chkF m n l o = fl 0 0 none' none' := by
  have h1 : chkE m n l o = (sickS m n l).2 := by unfold chkE; rw [if_pos hs, if_pos h0]
  exact ⟨h1, by unfold chkF; rw [h1, if_neg h0]⟩
theorem chk_cold {m n : Int} {l o : List Int} (hs : okSides m n) (h0 : (sickS m n l).2 = 0) (h2 : (coldS m n l o).2 ≠ 0) : chkE m n l o = (coldS m n l o).2 ∧ chkF m n l o = fl 0 0 none' none' := by
  have h1 : chkE m n l o = (coldS m n l o).2 := by unfold chkE; rw [if_pos hs, if_neg (by simp [h0])]
  exact ⟨h1, by unfold chkF; rw [h1, if_neg h2]⟩
theorem chk_ok {m n : Int} {l o : List Int} (hs : okSides m n) (h0 : (sickS m n l).2 = 0) (h2 : (coldS m n l o).2 = 0) : chkE m n l o = 0 ∧ chkF m n l o = fl m.toNat n.toNat (sickS m n l).1 (coldS m n l o).1 := by
  have h1 : chkE m n l o = 0 := by unfold chkE; rw [if_pos hs, if_neg (by simp [h0])]; exact h2
  exact ⟨h1, by unfold chkF; rw [if_pos h1]⟩
theorem checked_q (m n : Int) (u w : AV) (l o : List Int) (H : AH) (Q : AV → AH → Prop) (hu : Ls H u l) (hw : Ls H w o) (hl : l.length ≤ 1000000) (ho : o.length ≤ 1000000) (h : Q (.tuple [.agg (chkF m n l o), .int .i64 (chkE m n l o)]) H) : AC Try.prog 53 [.agg [.int .i64 m, .int .i64 n, u, w]] H Q := by
  refine AC.quiet (chkF_belB _ _ _ _ _ _ _) (fun Q h => ?_) Q h
  obtain ⟨ru, ou, vu, su, fu, hue, -⟩ := id hu
  obtain ⟨rw', ow, vw, sw, fw, hwe, -⟩ := id hw
  refine L_body 51 Try.func53 rfl rfl ?_
  obtain ⟨I, hI, hz⟩ := zeroT_some zt81'
  obtain ⟨J, hJ, hy⟩ := zeroT_some zt77
  obtain ⟨X, hX, hx⟩ := zeroT_some zt79'
  refine L_reg [1, 2] (fun K hK => ?_)
  simp [AV.isU, acells, hI, hz]
  apply hK; clear hK K
  have h1 : (H ++ [AObj.row [.int .i64 m, .int .i64 n, u, w] 0 0 false, AObj.row (fl 0 0 none' none') 0 0 false])[H.length]? = some (.row [.int .i64 m, .int .i64 n, u, w] 0 0 false) := by simp
  have h2 : (H ++ [AObj.row [.int .i64 m, .int .i64 n, u, w] 0 0 false, AObj.row (fl 0 0 none' none') 0 0 false])[H.length + 1]? = some (.row (fl 0 0 none' none') 0 0 false) := by simp
  have hE : Ext H (H ++ [AObj.row [.int .i64 m, .int .i64 n, u, w] 0 0 false, AObj.row (fl 0 0 none' none') 0 0 false]) := .push _ _
  generalize H ++ [AObj.row [.int .i64 m, .int .i64 n, u, w] 0 0 false, AObj.row (fl 0 0 none' none') 0 0 false] = H1 at h1 h2 hE ⊢
  have a0 : ld H1 H.length 0 0 = some (.int .i64 m) := by rw [ld_row h1]; rfl
  have a1 : ld H1 H.length 1 0 = some (.int .i64 n) := by rw [ld_row h1]; rfl
  have a2 : ld H1 H.length 2 0 = some u := by rw [ld_row h1, hue]; rfl
  have a3 : ld H1 H.length 3 0 = some w := by rw [ld_row h1, hwe]; rfl
  refine L_reg [1, 2, 4] (fun K hK => ?_)
  simp [okFn_low, a0, a1]
  refine checkSides_q m n _ _ ?_
  simp
  apply hK; clear hK K
  have hst0 := st_F (S' := none') (Z' := none') (r' := 0) (c' := 0) h2
  refine L_reg [1, 2, 4, 15] (fun K hK => ?_)
  simp
  apply hK; clear hK K
  by_cases hsd : okSides m n
  case neg =>
    have he : chkE m n l o = 1 := by unfold chkE; rw [if_neg hsd]
    have hF : chkF m n l o = fl 0 0 none' none' := by unfold chkF; rw [if_neg (by rw [he]; decide)]
    rw [he, hF] at h
    have hsd2 : ¬ ((1 ≤ m ∧ m ≤ 5) ∧ 1 ≤ n ∧ n ≤ 5) := hsd
    refine L_true (by simp [hsd2]) ?_
    refine L_reg [2, 3] (fun K hK => ?_)
    simp [bd81z, hst0, hsd2]
    apply hK; clear hK K
    refine L_ret ⟨.inr rfl, _, res_cell_tmp rfl ?_ rfl, h _ (hE.set _ (by omega))⟩
    simp [ldn_F (get_set h2)]
  have hsd2 : (1 ≤ m ∧ m ≤ 5) ∧ 1 ≤ n ∧ n ≤ 5 := hsd
  have hs := hsd.sd
  obtain ⟨r, hr⟩ : ∃ r : Nat, m = r := ⟨m.toNat, by omega⟩
  obtain ⟨c, hc⟩ : ∃ c : Nat, n = c := ⟨n.toNat, by omega⟩
  refine L_false (by simp [hsd2]) ?_
  have hsick : sickS m n l = colS (r * c) none' none' l := by unfold sickS; rw [hr, hc, Int.toNat_natCast, Int.toNat_natCast]
  have hcold : coldS m n l o = colS (r * c) (sickS m n l).1 none' o := by unfold coldS; rw [hr, hc, Int.toNat_natCast, Int.toNat_natCast]
  rw [hr, hc, Int.toNat_natCast, Int.toNat_natCast] at hs
  rw [hr] at a0
  rw [hc] at a1
  have hst1 : storeV Try.prog 77 (H1 ++ [AObj.row [.int .i64 0, .int .i64 0] 0 0 false]) (.ptr H1.length 0 0) (.agg [.int .i64 r, .int .i64 c]) = some (none, H1 ++ [AObj.row [.int .i64 r, .int .i64 c] 0 0 false]) := by
    rw [store_agg ag77 (c := [.int .i64 0, .int .i64 0]) (s := 0) (by simp) (by decide) rfl (by simp) rfl (by simp [AV.one])]
    simp
  refine L_reg [1, 2, 5] (fun K hK => ?_)
  simp [a0, a1, hJ, hy, hst1]
  apply hK; clear hK K
  have hL1 : (H1 ++ [AObj.row [.int .i64 r, .int .i64 c] 0 0 false]).length = H1.length + 1 := by simp
  have h5 : (H1 ++ [AObj.row [.int .i64 r, .int .i64 c] 0 0 false])[H1.length]? = some (.row [.int .i64 r, .int .i64 c] 0 0 false) := by simp
  have hE2 : Ext H1 (H1 ++ [AObj.row [.int .i64 r, .int .i64 c] 0 0 false]) := .push _ _
  have hl2 : H.length + 2 ≤ H1.length := by
    have := (List.getElem?_eq_some_iff.1 h2).1
    omega
  obtain ⟨x5, hx5⟩ : ∃ x5, H1.length = x5 := ⟨_, rfl⟩
  rw [hx5] at h5 hL1 hl2 ⊢
  replace h1 := hE2.row h1
  replace h2 := hE2.row h2
  replace hE := hE.trans hE2
  clear a0 a1 a2 a3 hst0 hst1 hE2
  generalize H1 ++ [AObj.row [.int .i64 r, .int .i64 c] 0 0 false] = H2 at h1 h2 h5 hE hL1 ⊢
  have a2 : ld H2 H.length 2 0 = some u := by rw [ld_row h1, hue]; rfl
  have a5 := ldn_f h5
  obtain ⟨A, hA⟩ : ∃ A, colS (r * c) none' none' l = A := ⟨_, rfl⟩
  have hst1 : storeV Try.prog 79 (H2 ++ [AObj.row (bA none') 0 0 false]) (.ptr H2.length 0 0) (.agg (bA A.1)) = some (none, H2 ++ [AObj.row (bA A.1) 0 0 false]) := by
    rw [st_m (S := none') (s := 0) (by simp)]
    simp
  refine L_reg [1, 2, 5, 6, 7] (fun K hK => ?_)
  simp [okFn_low, a2, a5, bd79]
  refine collect_q hs rfl none' u l _ _ (hu.ext hE) hl ?_
  simp [hA, hX, hx, hst1]
  apply hK; clear hK K
  rw [hA] at hsick
  rw [hsick] at hcold
  have h6 : (H2 ++ [AObj.row (bA A.1) 0 0 false])[x5 + 1]? = some (.row (bA A.1) 0 0 false) := by rw [← hL1]; simp
  have hE2 : Ext H2 (H2 ++ [AObj.row (bA A.1) 0 0 false]) := .push _ _
  have hL2 : (H2 ++ [AObj.row (bA A.1) 0 0 false]).length = x5 + 2 := by simp [hL1]
  rw [hL1]
  replace h1 := hE2.row h1
  replace h2 := hE2.row h2
  replace h5 := hE2.row h5
  replace hE := hE.trans hE2
  clear a2 a5 hst1 hE2
  generalize H2 ++ [AObj.row (bA A.1) 0 0 false] = H3 at h1 h2 h5 h6 hE hL2 ⊢
  have hst0 := st_F (S' := none') (Z' := none') (r' := 0) (c' := 0) h2
  refine L_reg [1, 2, 5, 6, 7, 32] (fun K hK => ?_)
  simp
  apply hK; clear hK K
  by_cases hA0 : A.2 = 0
  case neg =>
    obtain ⟨h8, h9⟩ := chk_sick (o := o) hsd (by rw [hsick]; exact hA0)
    rw [h8, h9, hsick] at h
    refine L_true (by simp [hA0]) ?_
    refine L_reg [2, 3] (fun K hK => ?_)
    simp [bd81z, hst0]
    apply hK; clear hK K
    refine L_ret ⟨.inr rfl, _, res_cell_tmp rfl ?_ rfl, h _ (hE.set _ (by omega))⟩
    simp [ldn_F (get_set h2)]
  refine L_false (by simp [hA0]) ?_
  have a3 : ld H3 H.length 3 0 = some w := by rw [ld_row h1, hwe]; rfl
  have a5 := ldn_f h5
  have a6 := ldn_b h6
  obtain ⟨B, hB⟩ : ∃ B, colS (r * c) A.1 none' o = B := ⟨_, rfl⟩
  have hst1 : storeV Try.prog 79 (H3 ++ [AObj.row (bA none') 0 0 false]) (.ptr H3.length 0 0) (.agg (bA B.1)) = some (none, H3 ++ [AObj.row (bA B.1) 0 0 false]) := by
    rw [st_m (S := none') (s := 0) (by simp)]
    simp
  refine L_reg [2, 5, 6, 7, 8] (fun K hK => ?_)
  simp [okFn_low, a3, a5, a6]
  refine collect_q hs rfl A.1 w o _ _ (hw.ext hE) ho ?_
  simp [hB, hX, hx, hst1]
  apply hK; clear hK K
  rw [hB] at hcold
  have h8 : (H3 ++ [AObj.row (bA B.1) 0 0 false])[x5 + 2]? = some (.row (bA B.1) 0 0 false) := by rw [← hL2]; simp
  have hE2 : Ext H3 (H3 ++ [AObj.row (bA B.1) 0 0 false]) := .push _ _
  rw [hL2]
  replace h1 := hE2.row h1
  replace h2 := hE2.row h2
  replace h5 := hE2.row h5
  replace h6 := hE2.row h6
  replace hE := hE.trans hE2
  clear a3 a5 a6 hst1 hE2 hst0
  generalize H3 ++ [AObj.row (bA B.1) 0 0 false] = H4 at h1 h2 h5 h6 h8 hE ⊢
  refine L_reg [2, 5, 6, 7, 8, 44] (fun K hK => ?_)
  simp
  apply hK; clear hK K
  by_cases hB0 : B.2 = 0
  case neg =>
    obtain ⟨h9, h10⟩ := chk_cold (o := o) hsd (by rw [hsick]; exact hA0) (by rw [hcold]; exact hB0)
    rw [h9, h10, hcold] at h
    have hst0 := st_F (S' := none') (Z' := none') (r' := 0) (c' := 0) h2
    refine L_true (by simp [hB0]) ?_
    refine L_reg [2, 3] (fun K hK => ?_)
    simp [bd81z, hst0]
    apply hK; clear hK K
    refine L_ret ⟨.inr rfl, _, res_cell_tmp rfl ?_ rfl, h _ (hE.set _ (by omega))⟩
    simp [ldn_F (get_set h2)]
  obtain ⟨h9, h10⟩ := chk_ok (o := o) hsd (by rw [hsick]; exact hA0) (by rw [hcold]; exact hB0)
  rw [h9, h10, hcold, hsick, hr, hc, Int.toNat_natCast, Int.toNat_natCast] at h
  refine L_false (by simp [hB0]) ?_
  have a5 := ldn_f h5
  have a6 := ldn_b h6
  have a8 := ldn_b h8
  have hst0 := st_F (S' := A.1) (Z' := B.1) (r' := r) (c' := c) h2
  refine L_reg [2, 3] (fun K hK => ?_)
  simp [a5, a6, a8, bd81, hst0]
  apply hK; clear hK K
  refine L_ret ⟨.inr rfl, _, res_cell_tmp rfl ?_ rfl, h _ (hE.set _ (by omega))⟩
  simp [ldn_F (get_set h2)]
end Go.Proofs.Ytfbpgnjeafadmaa.Fl

/- The first choice of so many bales that fits. -/
namespace Go.Proofs.Ytfbpgnjeafadmaa.Fl
open Go Go.Proofs.Ytfbpgnjeafadmaa Go.Proofs.Ytfbpgnjeafadmaa.AX
set_option maxRecDepth 100000

def chL (F : Nat → Bool) (rec : Nat → (Nat → Bool) → (Nat → Bool) × Bool) (C : Nat → Bool) : List Nat → (Nat → Bool) × Bool
  | [] => (none', false)
  | b :: l => if F b = true then (if (rec (b + 1) (upd C b true)).2 = true then ((rec (b + 1) (upd C b true)).1, true) else chL F rec C l) else chL F rec C l
def chP (fits : (Nat → Bool) → Bool) (F : Nat → Bool) : Nat → Nat → (Nat → Bool) → (Nat → Bool) × Bool
  | 0, _, C => (C, fits C)
  | m + 1, i, C => chL F (chP fits F m) C (List.range' i (25 - i))
theorem op_tmp (P : Program) (ρ : Operand → AV) (t : Tmp) (xs : Array Operand) (ts : Array TypeId) : opCall P ρ (.call ⟨.value (.tmp t), xs, ts⟩) = (match ρ (.tmp t) with | .func (.func f) first cap => if okFn P f then some (f, first ++ xs.toList.map ρ ++ cap) else none | _ => none) := rfl
theorem belB_mb (N : Nat) (S : Nat → Bool) (e : Bool) : belB N 4 (.tuple [.agg (bA S), .bool e]) = true := by
  simp only [belB, List.all_cons, List.all_nil, Bool.and_true, List.all_eq_true]
  intro v hv
  obtain ⟨y, -, rfl⟩ := List.mem_map.1 hv
  exact belB_bool _ _ _
theorem choose_q (f : FuncId) (caps : List AV) (fits : (Nat → Bool) → Bool) (F : Nat → Bool) (hfo : okFn Try.prog f = true) : ∀ (m i : Nat) (C : Nat → Bool) (H : AH) (Q : AV → AH → Prop), i ≤ 25 → m ≤ 100 → (∀ b, C b = true → F b = true) →
    (∀ H', Ext H H' → ∀ T, (∀ b, T b = true → F b = true) → ∀ Q : AV → AH → Prop, Q (.bool (fits T)) H' → AC Try.prog f (.agg (bA T) :: caps) H' Q) →
    Q (.tuple [.agg (bA (chP fits F m i C).1), .bool (chP fits F m i C).2]) H → AC Try.prog 76 [.agg (bA F), .agg (bA C), .int .i64 i, .int .i64 m, .func (.func f) [] caps] H Q := by
  intro m
  induction m with
  | zero =>
    intro i C H Q hi hm hC hf h
    refine AC.quiet (belB_mb _ _ _) (fun Q h => ?_) Q h
    refine L_body 48 Try.func76 rfl rfl ?_
    obtain ⟨I, hI, hz⟩ := zeroT_some zt79'
    refine L_reg [2, 3, 4, 5, 6, 10] (fun K hK => ?_)
    simp [AV.isU, acells, hI, hz]
    apply hK; clear hK K
    have h6 : (H ++ [AObj.row (bA F) 0 0 false, AObj.row (bA C) 0 0 false, AObj.row (bA none') 0 0 false])[H.length + 1]? = some (.row (bA C) 0 0 false) := by simp
    have h10 : (H ++ [AObj.row (bA F) 0 0 false, AObj.row (bA C) 0 0 false, AObj.row (bA none') 0 0 false])[H.length + 2]? = some (.row (bA none') 0 0 false) := by simp
    have hE : Ext H (H ++ [AObj.row (bA F) 0 0 false, AObj.row (bA C) 0 0 false, AObj.row (bA none') 0 0 false]) := .push _ _
    generalize H ++ [AObj.row (bA F) 0 0 false, AObj.row (bA C) 0 0 false, AObj.row (bA none') 0 0 false] = H1 at h6 h10 hE ⊢
    refine L_reg [2, 3, 4, 5, 6, 10, 17] (fun K hK => ?_)
    simp
    apply hK; clear hK K
    refine L_true (by simp) ?_
    have a6 := ldn_b h6
    have hst := st_m (T := C) h10
    refine L_regZ mixed [H.length + 2] [1, 0, 0, 0] [] [10, 11] (by kernel_rfl) (fun K hK => ?_)
    simp [hfo, a6, op_tmp]
    refine exX_mk (fun Q hQ => hf H1 hE C hC Q hQ) (.refl _) ?_
    simp [hst]
    apply hK; clear hK K
    refine L_ret ⟨.inr rfl, _, res_cell_tmp rfl ?_ rfl, h _ (hE.set _ (by omega))⟩
    simp [ldn_b (get_set h10)]
    rfl
  | succ m ih =>
    intro i0 C H Q hi0 hm hC hf h
    refine AC.quiet (belB_mb _ _ _) (fun Q h => ?_) Q h
    refine L_body 48 Try.func76 rfl rfl ?_
    obtain ⟨I, hI, hz⟩ := zeroT_some zt79'
    refine L_reg [2, 3, 4, 5, 6, 10] (fun K hK => ?_)
    simp [AV.isU, acells, hI, hz]
    apply hK; clear hK K
    have h5 : (H ++ [AObj.row (bA F) 0 0 false, AObj.row (bA C) 0 0 false, AObj.row (bA none') 0 0 false])[H.length]? = some (.row (bA F) 0 0 false) := by simp
    have h6 : (H ++ [AObj.row (bA F) 0 0 false, AObj.row (bA C) 0 0 false, AObj.row (bA none') 0 0 false])[H.length + 1]? = some (.row (bA C) 0 0 false) := by simp
    have h10 : (H ++ [AObj.row (bA F) 0 0 false, AObj.row (bA C) 0 0 false, AObj.row (bA none') 0 0 false])[H.length + 2]? = some (.row (bA none') 0 0 false) := by simp
    have hE : Ext H (H ++ [AObj.row (bA F) 0 0 false, AObj.row (bA C) 0 0 false, AObj.row (bA none') 0 0 false]) := .push _ _
    generalize H ++ [AObj.row (bA F) 0 0 false, AObj.row (bA C) 0 0 false, AObj.row (bA none') 0 0 false] = H1 at h5 h6 h10 hE ⊢
    refine L_reg [2, 3, 4, 5, 6, 10, 17] (fun K hK => ?_)
    simp
    apply hK; clear hK K
    refine L_false (by simp; omega) ?_
    refine L_reg [3, 4, 5, 6, 10, 12] (fun K hK => ?_)
    simp
    apply hK; clear hK K
    refine L_block (L_loopV [12] (fun q vs H' => ∃ i : Nat, q = 25 - i ∧ i ≤ 25 ∧ vs = [.int .i64 i] ∧ Ext H H' ∧ H'[H.length]? = some (.row (bA F) 0 0 false) ∧ H'[H.length + 1]? = some (.row (bA C) 0 0 false) ∧ H'[H.length + 2]? = some (.row (bA none') 0 0 false) ∧ chL F (chP fits F m) C (List.range' i (25 - i)) = chP fits F (m + 1) i0 C) _ [.int .i64 (i0 : Nat)] rfl ⟨i0, rfl, hi0, rfl, hE, h5, h6, h10, rfl⟩ ?_)
    clear h5 h6 h10 hE H1
    rintro q _ H1 ⟨i, rfl, hi, rfl, hE, h5, h6, h10, hc⟩
    refine L_reg [3, 4, 5, 6, 10, 12, 24] (fun K hK => ?_)
    simp
    apply hK; clear hK K
    refine L_dec (i < 25) (by simp; omega) (fun hlt => ?_) (fun hge => L_exit ?_)
    · have hrg : List.range' i (25 - i) = i :: List.range' (i + 1) (25 - (i + 1)) := by
        rw [show 25 - i = (25 - (i + 1)) + 1 by omega, List.range'_succ]
      rw [hrg] at hc
      simp only [chL] at hc
      have hii : (i : Int) < 25 := by omega
      have a5 := ld_b h5 hlt
      refine L_block ?_
      refine L_reg [3, 4, 5, 6, 10, 12, 30] (fun K hK => ?_)
      simp [hii, a5]
      apply hK; clear hK K
      cases hFi : F i with
      | false =>
        rw [if_neg (by simp [hFi])] at hc
        refine L_true (by simp) ?_
        refine L_exit ?_
        refine L_reg [3, 4, 5, 6, 10, 12] (fun K hK => ?_)
        simp [wrap_i64 (a := (i : Int) + 1) (by omega)]
        apply hK; clear hK K
        exact ⟨25 - (i + 1), [.int .i64 (i + 1 : Nat)], by omega, by simp, i + 1, rfl, by omega, rfl, hE, h5, h6, h10, hc⟩
      | true =>
        rw [if_pos hFi] at hc
        refine L_false (by simp) ?_
        have a6 := ldn_b h6
        have hst1 : storeV Try.prog 79 (H1 ++ [AObj.row (bA none') 0 0 false]) (.ptr H1.length 0 0) (.agg (bA C)) = some (none, H1 ++ [AObj.row (bA C) 0 0 false]) := by
          rw [st_m (S := none') (s := 0) (by simp)]
          simp
        refine L_reg [3, 4, 5, 6, 10, 12, 13] (fun K hK => ?_)
        simp [a6, hI, hz, hst1]
        apply hK; clear hK K
        have h13 : (H1 ++ [AObj.row (bA C) 0 0 false])[H1.length]? = some (.row (bA C) 0 0 false) := by simp
        have hE2 : Ext H1 (H1 ++ [AObj.row (bA C) 0 0 false]) := .push _ _
        have hl3 : H.length + 3 ≤ H1.length := by
          have := (List.getElem?_eq_some_iff.1 h10).1
          omega
        replace h5 := hE2.row h5
        replace h6 := hE2.row h6
        replace h10 := hE2.row h10
        replace hE := hE.trans hE2
        obtain ⟨w, hw⟩ : ∃ w, H1.length = w := ⟨_, rfl⟩
        rw [hw] at h13 hl3 ⊢
        clear a5 a6 hst1 hE2
        generalize H1 ++ [AObj.row (bA C) 0 0 false] = H2 at h5 h6 h10 h13 hE ⊢
        have hst := st_b (v := true) h13 hlt
        refine L_reg [3, 4, 5, 6, 10, 12, 13] (fun K hK => ?_)
        simp [hii, hst]
        apply hK; clear hK K
        have g5 : (H2.set w (.row (bA (upd C i true)) 0 (min 0 i) false))[H.length]? = some (.row (bA F) 0 0 false) := by rw [List.getElem?_set_ne (by omega)]; exact h5
        have g6 : (H2.set w (.row (bA (upd C i true)) 0 (min 0 i) false))[H.length + 1]? = some (.row (bA C) 0 0 false) := by rw [List.getElem?_set_ne (by omega)]; exact h6
        have g10 : (H2.set w (.row (bA (upd C i true)) 0 (min 0 i) false))[H.length + 2]? = some (.row (bA none') 0 0 false) := by rw [List.getElem?_set_ne (by omega)]; exact h10
        have g13 := get_set (o' := .row (bA (upd C i true)) 0 (min 0 i) false) h13
        have gE : Ext H (H2.set w (.row (bA (upd C i true)) 0 (min 0 i) false)) := hE.set _ (by omega)
        rw [Nat.zero_min] at g5 g6 g10 g13 gE
        clear h5 h6 h10 h13 hE hst
        generalize H2.set w (.row (bA (upd C i true)) 0 0 false) = H3 at g5 g6 g10 g13 gE ⊢
        have a5 := ldn_b g5
        have a13 := ldn_b g13
        have hC2 : ∀ b, upd C i true b = true → F b = true := by
          intro b hb
          unfold upd at hb
          split at hb
          · rename_i e; subst e; exact hFi
          · exact hC b hb
        obtain ⟨A, hA⟩ : ∃ A, chP fits F m (i + 1) (upd C i true) = A := ⟨_, rfl⟩
        rw [hA] at hc
        have hst1 : storeV Try.prog 79 (H3 ++ [AObj.row (bA none') 0 0 false]) (.ptr H3.length 0 0) (.agg (bA A.1)) = some (none, H3 ++ [AObj.row (bA A.1) 0 0 false]) := by
          rw [st_m (S := none') (s := 0) (by simp)]
          simp
        have wi : IntKind.i64.wrap ((i : Int) + 1) = ((i + 1 : Nat) : Int) := by rw [wrap_i64 (by omega)]; omega
        have wm : IntKind.i64.wrap (m : Int) = m := wrap_i64 (by omega)
        refine L_reg [3, 4, 5, 6, 10, 12, 14, 15] (fun K hK => ?_)
        simp [okFn_low, a5, a13, wi, wm, -Int.natCast_add]
        refine ih (i + 1) (upd C i true) H3 _ (by omega) (by omega) hC2 (fun H' hE' => hf H' (gE.trans hE')) ?_
        simp [hA, hI, hz, hst1]
        apply hK; clear hK K
        have hE2 : Ext H3 (H3 ++ [AObj.row (bA A.1) 0 0 false]) := .push _ _
        have h14 : (H3 ++ [AObj.row (bA A.1) 0 0 false])[H3.length]? = some (.row (bA A.1) 0 0 false) := by simp
        replace g5 := hE2.row g5
        replace g6 := hE2.row g6
        replace g10 := hE2.row g10
        replace gE := gE.trans hE2
        have a14 := ldn_b h14
        have hst := st_m (T := A.1) g10
        refine L_reg [3, 4, 5, 6, 10, 12, 14, 45] (fun K hK => ?_)
        simp
        apply hK; clear hK K
        cases hA2 : A.2 with
        | true =>
          rw [if_pos hA2] at hc
          refine L_true (by simp) ?_
          refine L_reg [10, 11] (fun K hK => ?_)
          simp [a14, hst]
          apply hK; clear hK K
          rw [← hc] at h
          refine L_ret ⟨.inr rfl, _, res_cell_tmp rfl ?_ rfl, h _ (gE.set _ (by omega))⟩
          simp [ldn_b (get_set g10)]
        | false =>
          rw [if_neg (by simp [hA2])] at hc
          refine L_false (by simp) ?_
          refine L_reg [3, 4, 5, 6, 10, 12] (fun K hK => ?_)
          simp [wi]
          apply hK; clear hK K
          exact ⟨25 - (i + 1), [.int .i64 (i + 1 : Nat)], by omega, by simp, i + 1, rfl, by omega, rfl, gE, g5, g6, g10, hc⟩
    · have e : i = 25 := by omega
      subst e
      have hst := st_m (T := none') h10
      have hc2 : chP fits F (m + 1) i0 C = (none', false) := by rw [← hc]; rfl
      rw [hc2] at h
      refine L_reg [10, 11] (fun K hK => ?_)
      simp [bd79, hst]
      apply hK; clear hK K
      refine L_ret ⟨.inr rfl, _, res_cell_tmp rfl ?_ rfl, h _ (hE.set _ (by omega))⟩
      simp [ldn_b (get_set h10)]
end Go.Proofs.Ytfbpgnjeafadmaa.Fl

/- Bales that are lost, kept, idle, and safe. -/
namespace Go.Proofs.Ytfbpgnjeafadmaa.Fl
open Go Go.Proofs.Ytfbpgnjeafadmaa Go.Proofs.Ytfbpgnjeafadmaa.AX
set_option maxRecDepth 100000

theorem store_aggP {P : Program} {t : TypeId} {n : Nat} (h : aggSz P t = some n) {H : AH} {r ver s p : Nat} {a c d vs : List AV} (hr : H[r]? = some (.row (a ++ c ++ d) ver s false)) (hn : n ≠ 0) (hp : a.length = p) (hc : c.length = n) (hk : ∀ v ∈ c, v ≠ .undef) (hl : vs.length = n) (ho : ∀ v ∈ vs, v.one = true) :
    storeV P t H (.ptr r p ver) (.agg vs) = some (none, H.set r (.row (a ++ vs ++ d) ver (min s p) false)) := by
  unfold aggSz at h
  split at h
  case h_2 => cases h
  rename_i e i hd hi
  split at h
  case isFalse => cases h
  cases h
  cases vs with
  | nil => simp at hl; omega
  | cons v vs =>
    have hdr : (a ++ c ++ d).drop p = c ++ d := by rw [List.append_assoc, ← hp, List.drop_left]
    have ht : (takeKnown (v :: vs).length ((a ++ c ++ d).drop p)).isSome = true := by
      rw [hdr, hl, ← hc, take_pre hk]; rfl
    have hall : (v :: vs).all AV.one = true := by simpa using ho
    have e1 : (a ++ c ++ d).take p = a := by rw [List.append_assoc, ← hp, List.take_left]
    have e2 : (a ++ c ++ d).drop (p + (v :: vs).length) = d := by
      rw [hl, ← hc, ← hp, ← List.length_append, List.drop_left]
    have hst : stn H r ver (v :: vs) p = some (H.set r (.row (a ++ (v :: vs) ++ d) ver (min s p) false)) := by
      simp only [stn, hr, ht, hall, and_self, if_true, e1, e2]
    have hlen : ((v :: vs).length != i.size) = false := by rw [hl]; simp
    simp only [storeV, hi, acells, AV.isU, Bool.false_or, hlen, Bool.false_eq_true, if_false, hst, Option.map_some]
section
variable {H : AH} {p s r c b : Nat} {S Z T : Nat → Bool} {ro : Bool}
theorem fl_get1 (hb : b < 25) : (fl r c S Z)[2 + b]? = some (.bool (S b)) := by
  rw [fl, show 2 + b = b + 1 + 1 by omega, List.getElem?_cons_succ, List.getElem?_cons_succ, List.getElem?_append_left (by rw [bA_len]; exact hb), bA_get S hb]
theorem fl_get2 (hb : b < 25) : (fl r c S Z)[27 + b]? = some (.bool (Z b)) := by
  rw [fl, show 27 + b = (25 + b) + 1 + 1 by omega, List.getElem?_cons_succ, List.getElem?_cons_succ, List.getElem?_append_right (by rw [bA_len]; omega), bA_len, show 25 + b - 25 = b by omega, bA_get Z hb]
theorem ld_F1 (hr : H[p]? = some (.row (fl r c S Z) 0 s ro)) (hb : b < 25) : ld H p (2 + b) 0 = some (.bool (S b)) := by
  rw [ld_row hr, fl_get1 hb]; rfl
theorem ld_F2 (hr : H[p]? = some (.row (fl r c S Z) 0 s ro)) (hb : b < 25) : ld H p (27 + b) 0 = some (.bool (Z b)) := by
  rw [ld_row hr, fl_get2 hb]; rfl
theorem st_F1 {v : Bool} (hr : H[p]? = some (.row (fl r c S Z) 0 s false)) (hb : b < 25) : storeV Try.prog 4 H (.ptr p (2 + b) 0) (.bool v) = some (none, H.set p (.row (fl r c (upd S b v) Z) 0 (min s (2 + b)) false)) := by
  rw [store_row (P := Try.prog) (u := 4) (p := 2 + b) sc4 (x := .bool v) (y := .bool (S b)) rfl hr (by rw [fl_get1 hb]; rfl)]
  have : (fl r c S Z).set (2 + b) (.bool v) = fl r c (upd S b v) Z := by
    rw [fl, show 2 + b = b + 1 + 1 by omega, List.set_cons_succ, List.set_cons_succ, List.set_append_left _ _ (by rw [bA_len]; exact hb), bA_set]
    rfl
  rw [this]
theorem st_F2 (hr : H[p]? = some (.row (fl r c S Z) 0 s false)) : storeV Try.prog 79 H (.ptr p 27 0) (.agg (bA T)) = some (none, H.set p (.row (fl r c S T) 0 (min s 27) false)) := by
  have e : ∀ Z, fl r c S Z = (.int .i64 r :: .int .i64 c :: bA S) ++ bA Z ++ [] := fun Z => by simp [fl]
  rw [e Z] at hr
  rw [store_aggP ag79 hr (by decide) (by simp [bA_len]) (bA_len Z) (bA_known Z) (bA_len T) (bA_one T), ← e T]
end
theorem lost_q {r c n : Nat} (hs : Sd r c) (hn : r * c = n) (S Z : Nat → Bool) (b : Nat) (hb : b < n) (H : AH) (Q : AV → AH → Prop) (h : Q (.bool (S b || (!Z b && decide (2 ≤ bes r c S b)))) H) : AC Try.prog 78 [.agg (fl r c S Z), .int .i64 b] H Q := by
  refine AC.quiet (belB_bool _ _ _) (fun Q h => ?_) Q h
  have h25 := hs.le
  have hb25 : b < 25 := by omega
  have hbi : (b : Int) < 25 := by omega
  refine L_body 25 Try.func78 rfl rfl ?_
  refine L_reg [1, 2] (fun K hK => ?_)
  simp [AV.isU, acells]
  apply hK; clear hK K
  have h1 : (H ++ [AObj.row (fl r c S Z) 0 0 false])[H.length]? = some (.row (fl r c S Z) 0 0 false) := by simp
  have hE : Ext H (H ++ [AObj.row (fl r c S Z) 0 0 false]) := .push _ _
  generalize H ++ [AObj.row (fl r c S Z) 0 0 false] = H1 at h1 hE ⊢
  have a1 := ld_F1 h1 hb25
  have a2 := ld_F2 h1 hb25
  have a3 := ldn_F0 h1
  have a4 := ldn_F1 h1
  cases hSb : S b with
  | true =>
    rw [hSb] at a1 h
    refine L_reg [4] (fun K hK => ?_)
    simp [hbi, a1, pickV]
    apply hK; clear hK K
    exact L_ret ⟨.inr rfl, _, rfl, h _ hE⟩
  | false =>
    rw [hSb, Bool.false_or] at h
    rw [hSb] at a1
    cases hZb : Z b with
    | true =>
      rw [hZb] at a2 h
      refine L_reg [4] (fun K hK => ?_)
      simp [hbi, a1, a2, pickV]
      apply hK; clear hK K
      exact L_ret ⟨.inr rfl, _, rfl, h _ hE⟩
    | false =>
      rw [hZb] at a2 h
      refine L_reg [4] (fun K hK => ?_)
      simp [okFn_low, hbi, a1, a2, a3, a4]
      refine beside_q hs b (by omega) S _ _ ?_
      simp [pickV]
      apply hK; clear hK K
      refine L_ret ⟨.inr rfl, _, rfl, ?_⟩
      have e : decide ((2 : Int) ≤ (bes r c S b : Nat)) = decide (2 ≤ bes r c S b) := decide_eq_decide.2 (by omega)
      rw [e]
      simpa using h _ hE
theorem keeps_q {r c n : Nat} (hs : Sd r c) (hn : r * c = n) (S Z T : Nat → Bool) (hS : ∀ b, S b = true → b < n) (b : Nat) (hb : b < n) (H : AH) (Q : AV → AH → Prop) (h : Q (.bool (!sp r c 2 (opn n (or' Z T)) S b)) H) : AC Try.prog 82 [.agg (fl r c S Z), .int .i64 b, .agg (bA T)] H Q := by
  refine AC.quiet (belB_bool _ _ _) (fun Q h => ?_) Q h
  have h25 := hs.le
  have hb25 : b < 25 := by omega
  refine L_body 19 Try.func82 rfl rfl ?_
  obtain ⟨I, hI, hz⟩ := zeroT_some zt81'
  refine L_reg [1, 3, 5] (fun K hK => ?_)
  simp [AV.isU, acells]
  apply hK; clear hK K
  have h3 : (H ++ [AObj.row (fl r c S Z) 0 0 false, AObj.row (bA T) 0 0 false])[H.length]? = some (.row (fl r c S Z) 0 0 false) := by simp
  have h5 : (H ++ [AObj.row (fl r c S Z) 0 0 false, AObj.row (bA T) 0 0 false])[H.length + 1]? = some (.row (bA T) 0 0 false) := by simp
  have hl : (H ++ [AObj.row (fl r c S Z) 0 0 false, AObj.row (bA T) 0 0 false]).length = H.length + 2 := by simp
  have hE : Ext H (H ++ [AObj.row (fl r c S Z) 0 0 false, AObj.row (bA T) 0 0 false]) := .push _ _
  generalize H ++ [AObj.row (fl r c S Z) 0 0 false, AObj.row (bA T) 0 0 false] = H1 at h3 h5 hl hE ⊢
  have a3 := ldn_F h3
  have hst1 : storeV Try.prog 81 (H1 ++ [AObj.row (fl 0 0 none' none') 0 0 false]) (.ptr H1.length 0 0) (.agg (fl r c S Z)) = some (none, H1 ++ [AObj.row (fl r c S Z) 0 0 false]) := by
    rw [st_F (r := 0) (c := 0) (S := none') (Z := none') (s := 0) (by simp)]
    simp
  refine L_reg [1, 3, 5, 7] (fun K hK => ?_)
  simp [a3, hI, hz, hst1]
  apply hK; clear hK K
  have h7 : (H1 ++ [AObj.row (fl r c S Z) 0 0 false])[H.length + 2]? = some (.row (fl r c S Z) 0 0 false) := by rw [← hl]; simp
  have hE2 : Ext H1 (H1 ++ [AObj.row (fl r c S Z) 0 0 false]) := .push _ _
  rw [hl]
  replace h3 := hE2.row h3
  replace h5 := hE2.row h5
  replace hE := hE.trans hE2
  clear a3 hst1 hE2
  generalize H1 ++ [AObj.row (fl r c S Z) 0 0 false] = H2 at h3 h5 h7 hE ⊢
  have a3 := ldn_F2 h3
  have a5 := ldn_b h5
  have hst := st_F2 (T := or' Z T) h7
  refine L_reg [1, 7] (fun K hK => ?_)
  simp [okFn_low, a3, a5]
  refine and_q Z T _ _ ?_
  simp [hst]
  apply hK; clear hK K
  have g7 := get_set (o' := .row (fl r c S (or' Z T)) 0 (min 0 27) false) h7
  have gE : Ext H (H2.set (H.length + 2) (.row (fl r c S (or' Z T)) 0 (min 0 27) false)) := hE.set _ (by omega)
  rw [Nat.zero_min] at g7 gE
  generalize H2.set (H.length + 2) (.row (fl r c S (or' Z T)) 0 0 false) = H3 at g7 gE ⊢
  have a7 := ldn_F g7
  have a9 := ix79 (S := sp r c 2 (opn n (or' Z T)) S) hb25
  refine L_reg [6] (fun K hK => ?_)
  simp [okFn_low, a7]
  refine spread_q hs hn S (or' Z T) hS _ _ ?_
  simp [a9]
  apply hK; clear hK K
  exact L_ret ⟨.inr rfl, _, rfl, h _ gE⟩
theorem idle_q {r c n : Nat} (hs : Sd r c) (hn : r * c = n) (S Z : Nat → Bool) (hS : ∀ b, S b = true → b < n) (b : Nat) (hb : b < n) (H : AH) (Q : AV → AH → Prop) (h : Q (.bool ((List.range 25).all fun i => sp r c 2 (opn n Z) (upd S b false) i == sp r c 2 (opn n Z) S i)) H) : AC Try.prog 67 [.agg (fl r c S Z), .int .i64 b] H Q := by
  refine AC.quiet (belB_bool _ _ _) (fun Q h => ?_) Q h
  have h25 := hs.le
  have hb25 : b < 25 := by omega
  have hbi : (b : Int) < 25 := by omega
  refine L_body 15 Try.func67 rfl rfl ?_
  obtain ⟨I, hI, hz⟩ := zeroT_some zt81'
  refine L_reg [1, 2] (fun K hK => ?_)
  simp [AV.isU, acells]
  apply hK; clear hK K
  have h2 : (H ++ [AObj.row (fl r c S Z) 0 0 false])[H.length]? = some (.row (fl r c S Z) 0 0 false) := by simp
  have hl : (H ++ [AObj.row (fl r c S Z) 0 0 false]).length = H.length + 1 := by simp
  have hE : Ext H (H ++ [AObj.row (fl r c S Z) 0 0 false]) := .push _ _
  generalize H ++ [AObj.row (fl r c S Z) 0 0 false] = H1 at h2 hl hE ⊢
  have a2 := ldn_F h2
  have hst1 : storeV Try.prog 81 (H1 ++ [AObj.row (fl 0 0 none' none') 0 0 false]) (.ptr H1.length 0 0) (.agg (fl r c S Z)) = some (none, H1 ++ [AObj.row (fl r c S Z) 0 0 false]) := by
    rw [st_F (r := 0) (c := 0) (S := none') (Z := none') (s := 0) (by simp)]
    simp
  refine L_reg [1, 2, 5] (fun K hK => ?_)
  simp [a2, hI, hz, hst1]
  apply hK; clear hK K
  have h5 : (H1 ++ [AObj.row (fl r c S Z) 0 0 false])[H.length + 1]? = some (.row (fl r c S Z) 0 0 false) := by rw [← hl]; simp
  have hE2 : Ext H1 (H1 ++ [AObj.row (fl r c S Z) 0 0 false]) := .push _ _
  rw [hl]
  replace h2 := hE2.row h2
  replace hE := hE.trans hE2
  clear a2 hst1 hE2
  generalize H1 ++ [AObj.row (fl r c S Z) 0 0 false] = H2 at h2 h5 hE ⊢
  have hst := st_F1 (v := false) h5 hb25
  refine L_reg [2, 5] (fun K hK => ?_)
  simp [hbi, hst]
  apply hK; clear hK K
  have g5 := get_set (o' := .row (fl r c (upd S b false) Z) 0 (min 0 (2 + b)) false) h5
  have g2 : (H2.set (H.length + 1) (.row (fl r c (upd S b false) Z) 0 (min 0 (2 + b)) false))[H.length]? = some (.row (fl r c S Z) 0 0 false) := by rw [List.getElem?_set_ne (by omega)]; exact h2
  have gE : Ext H (H2.set (H.length + 1) (.row (fl r c (upd S b false) Z) 0 (min 0 (2 + b)) false)) := hE.set _ (by omega)
  rw [Nat.zero_min] at g5 g2 gE
  generalize H2.set (H.length + 1) (.row (fl r c (upd S b false) Z) 0 0 false) = H3 at g5 g2 gE ⊢
  have a5 := ldn_F g5
  have a2 := ldn_F g2
  have hS2 : ∀ x, upd S b false x = true → x < n := by
    intro x hx
    unfold upd at hx
    split at hx
    · cases hx
    · exact hS x hx
  refine L_regZ mixed [] [0, 0, 1, 0] [] [4] (by kernel_rfl) (fun K hK => ?_)
  simp [okFn_low, a5]
  refine exX_mk (fun Q hQ => spread_q hs hn _ Z hS2 _ Q hQ) (.refl _) ?_
  simp [okFn_low, a2]
  refine exX_mk (fun Q hQ => spread_q hs hn _ Z hS _ Q hQ) (.refl _) ?_
  simp [b_eqB]
  apply hK; clear hK K
  refine L_ret ⟨.inr rfl, _, rfl, ?_⟩
  simpa using h _ gE
end Go.Proofs.Ytfbpgnjeafadmaa.Fl

/- What is safe by itself; the closures of Plant and Keep. -/
namespace Go.Proofs.Ytfbpgnjeafadmaa.Fl
open Go Go.Proofs.Ytfbpgnjeafadmaa Go.Proofs.Ytfbpgnjeafadmaa.AX
set_option maxRecDepth 100000

def safeS (r c n : Nat) (S Z T : Nat → Bool) : Bool := (num T).all fun x => !S x.toNat && (Z x.toNat || decide (bes r c (sub' (opn n Z) T) x.toNat < 2))
theorem new79 (H : AH) (T : Nat → Bool) : storeV Try.prog 79 (H ++ [AObj.row (bA none') 0 0 false]) (.ptr H.length 0 0) (.agg (bA T)) = some (none, H ++ [AObj.row (bA T) 0 0 false]) := by
  rw [st_m (S := none') (s := 0) (by simp)]
  simp
theorem safe_ac {r c n : Nat} (hs : Sd r c) (hn : r * c = n) (S Z T : Nat → Bool) (hT : ∀ b, T b = true → b < n) (H : AH) (Q : AV → AH → Prop) (h : Q (.bool (safeS r c n S Z T)) H) : AC Try.prog 69 [.agg (fl r c S Z), .agg (bA T)] H Q := by
  refine AC.quiet (belB_bool _ _ _) (fun Q h => ?_) Q h
  have h25 := hs.le
  refine L_body 37 Try.func69 rfl rfl ?_
  obtain ⟨I, hI, hz⟩ := zeroT_some zt79'
  refine L_reg [2, 3, 4] (fun K hK => ?_)
  simp [AV.isU, acells]
  apply hK; clear hK K
  have h2 : (H ++ [AObj.row (fl r c S Z) 0 0 false, AObj.row (bA T) 0 0 false])[H.length]? = some (.row (fl r c S Z) 0 0 false) := by simp
  have h3 : (H ++ [AObj.row (fl r c S Z) 0 0 false, AObj.row (bA T) 0 0 false])[H.length + 1]? = some (.row (bA T) 0 0 false) := by simp
  have hl : (H ++ [AObj.row (fl r c S Z) 0 0 false, AObj.row (bA T) 0 0 false]).length = H.length + 2 := by simp
  have hE : Ext H (H ++ [AObj.row (fl r c S Z) 0 0 false, AObj.row (bA T) 0 0 false]) := .push _ _
  generalize H ++ [AObj.row (fl r c S Z) 0 0 false, AObj.row (bA T) 0 0 false] = H1 at h2 h3 hl hE ⊢
  have aF := ldn_F h2
  have aT := ldn_b h3
  have ex : ∀ l : AH, Ext H1 (H1 ++ l) := fun l => .push _ _
  refine L_regR mixed (fun K hK => ?_)
  have hfin : K .normal [(2, .ptr H.length 0 0), (3, .ptr (H.length + 1) 0 0), (5, .ptr H1.length 0 0)] (H1 ++ [AObj.row (bA (sub' (opn n Z) T)) 0 0 false]) := by
    apply hK; clear hK K
    have h5 : (H1 ++ [AObj.row (bA (sub' (opn n Z) T)) 0 0 false])[H.length + 2]? = some (.row (bA (sub' (opn n Z) T)) 0 0 false) := by rw [← hl]; simp
    rw [hl]
    replace h2 := (ex [AObj.row (bA (sub' (opn n Z) T)) 0 0 false]).row h2
    replace h3 := (ex [AObj.row (bA (sub' (opn n Z) T)) 0 0 false]).row h3
    replace hE := hE.trans (ex [AObj.row (bA (sub' (opn n Z) T)) 0 0 false])
    clear aF aT ex
    generalize H1 ++ [AObj.row (bA (sub' (opn n Z) T)) 0 0 false] = H2 at h2 h3 h5 hE ⊢
    have aT := ldn_b h3
    refine L_reg [2, 5, 13, 14, 15] (fun K hK => ?_)
    simp [okFn_low, aT]
    refine list_ac _ _ _ (fun v H3 hN hE2 => ?_)
    have hO := hN.2
    clear hN
    have hv := ownF_ls hO
    simp [ls_len hv]
    apply hK; clear hK K
    replace h2 := hE2.row h2
    replace h5 := hE2.row h5
    replace hE := hE.trans hE2
    clear aT h3 hE2 hO
    have hLl := num_len T
    have a0 := ldn_F0 h2
    have a5 := ldn_b h5
    refine L_block (L_loopV [15] (fun q vs H' => ∃ i : Nat, q = (num T).length - i ∧ i ≤ (num T).length ∧ vs = [.int .i64 i] ∧ H3 = H' ∧ ((num T).drop i).all (fun x => !S x.toNat && (Z x.toNat || decide (bes r c (sub' (opn n Z) T) x.toNat < 2))) = safeS r c n S Z T) _ [.int .i64 (0 : Nat)] rfl ⟨0, rfl, by omega, rfl, rfl, rfl⟩ ?_)
    rintro q _ _ ⟨i, rfl, hi, rfl, rfl, hall⟩
    refine L_reg [2, 5, 13, 14, 15, 16] (fun K hK => ?_)
    simp
    apply hK; clear hK K
    refine L_dec (i < (num T).length) (by simp) (fun hlt => ?_) (fun hge => L_exit ?_)
    · refine L_block ?_
      obtain ⟨rz, pz, vz, hix, hldz⟩ := ls_ix hv hlt
      obtain ⟨b, hb, hb25, hTb⟩ := num_at hlt
      have hbn := hT b hTb
      rw [List.drop_eq_getElem_cons hlt, ← g_lt hlt, hb, List.all_cons, Int.toNat_natCast] at hall
      rw [hb] at hldz
      have hbi : (b : Int) < 25 := by omega
      have a1 := ld_F1 h2 hb25
      have a2 := ld_F2 h2 hb25
      refine L_reg [2, 5, 7, 13, 14, 15] (fun K hK => ?_)
      simp [hix, hldz]
      apply hK; clear hK K
      refine L_reg [2, 5, 7, 13, 14, 15, 22] (fun K hK => ?_)
      simp [hbi, a1]
      apply hK; clear hK K
      cases hSb : S b with
      | true =>
        rw [hSb] at hall
        refine L_true (by simp) ?_
        refine L_reg [4] (fun K hK => ?_)
        simp
        apply hK; clear hK K
        refine L_ret ⟨.inr rfl, _, rfl, ?_⟩
        have : safeS r c n S Z T = false := by rw [← hall]; rfl
        rw [this] at h
        exact h _ hE
      | false =>
        rw [hSb] at hall
        refine L_false (by simp) ?_
        obtain ⟨t, ht⟩ : ∃ t, (!Z b && decide (2 ≤ bes r c (sub' (opn n Z) T) b)) = t := ⟨_, rfl⟩
        refine L_reg [2, 5, 13, 14, 15, 35] (fun K hK => ?_)
        suffices hk : K [(2, .ptr H.length 0 0), (5, .ptr (H.length + 2) 0 0), (13, v), (14, .int .i64 (num T).length), (15, .int .i64 i), (35, .bool t)] H3 by
          cases hZb : Z b with
          | true =>
            rw [hZb] at ht a2
            have ht : false = t := ht
            subst ht
            simp [hbi, a2, pickV]
            exact hk
          | false =>
            rw [hZb] at ht a2
            have e : decide ((2 : Int) ≤ (bes r c (sub' (opn n Z) T) b : Nat)) = decide (2 ≤ bes r c (sub' (opn n Z) T) b) := decide_eq_decide.2 (by omega)
            have ht : decide (2 ≤ bes r c (sub' (opn n Z) T) b) = t := by simpa using ht
            simp [okFn_low, hbi, a2, a0, a5]
            refine beside_q hs b (by omega) _ _ _ ?_
            simp [pickV]
            rw [e, ht]
            exact hk
        apply hK; clear hK K
        have hx : (Z b || decide (bes r c (sub' (opn n Z) T) b < 2)) = !t := by
          rw [← ht]
          by_cases h2 : 2 ≤ bes r c (sub' (opn n Z) T) b
          · rw [decide_eq_true h2, decide_eq_false (by omega)]; simp
          · rw [decide_eq_false h2, decide_eq_true (by omega)]; simp
        rw [hx] at hall
        cases t with
        | true =>
          refine L_true (by simp) ?_
          refine L_reg [4] (fun K hK => ?_)
          simp
          apply hK; clear hK K
          refine L_ret ⟨.inr rfl, _, rfl, ?_⟩
          have : safeS r c n S Z T = false := by rw [← hall]; rfl
          rw [this] at h
          exact h _ hE
        | false =>
          refine L_false (by simp) ?_
          refine L_reg [2, 5, 13, 14, 15] (fun K hK => ?_)
          simp [wrap_i64 (a := (i : Int) + 1) (by omega)]
          apply hK; clear hK K
          exact ⟨(num T).length - (i + 1), [.int .i64 (i + 1 : Nat)], by omega, by simp, i + 1, rfl, by omega, rfl, rfl, by rw [← hall]; rfl⟩
    · have e : i = (num T).length := by omega
      rw [e, List.drop_length] at hall
      refine L_reg [4] (fun K hK => ?_)
      simp
      apply hK; clear hK K
      refine L_ret ⟨.inr rfl, _, rfl, ?_⟩
      have : safeS r c n S Z T = true := by rw [← hall]; rfl
      rw [this] at h
      exact h _ hE
  refine AWR_pair (x := 1) (y := 4) (ord := [0, 2, 4, 1, 3, 5]) (by kernel_rfl) ?_ ?_
  · refine AWR_pair (x := 3) (y := 4) (ord := [0, 1, 2, 4, 3, 5]) (by kernel_rfl) ?_ ?_
    · refine AWR_U [2, 3, 5] [false, false, true] rfl (by kernel_rfl) ?_
      simp [addE, okFn_low, aF]
      first | refine exX_mk (fun Q hQ => open_q hs hn S Z _ Q hQ) (.refl _) ?_ | refine exX_mk (fun Q hQ => open_q hs hn S Z _ Q hQ) (ex _) ?_ | refine exC_mk (fun Q hQ => open_q hs hn S Z _ Q hQ) ?_
      simp [okFn_low, aT]
      first | refine exX_mk (fun Q hQ => without_q _ _ _ Q hQ) (.refl _) ?_ | refine exX_mk (fun Q hQ => without_q _ _ _ Q hQ) (ex _) ?_ | refine exC_mk (fun Q hQ => without_q _ _ _ Q hQ) ?_
      simp [hI, hz, new79]
      exact hfin
    · refine AWR_U [2, 3, 5] [false, false, true, false] rfl (by kernel_rfl) ?_
      simp [addE, permL, okFn_low, aF]
      first | refine exX_mk (fun Q hQ => open_q hs hn S Z _ Q hQ) (.refl _) ?_ | refine exX_mk (fun Q hQ => open_q hs hn S Z _ Q hQ) (ex _) ?_ | refine exC_mk (fun Q hQ => open_q hs hn S Z _ Q hQ) ?_
      simp [okFn_low, aT, hI, hz, ex]
      first | refine exX_mk (fun Q hQ => without_q _ _ _ Q hQ) (.refl _) ?_ | refine exX_mk (fun Q hQ => without_q _ _ _ Q hQ) (ex _) ?_ | refine exC_mk (fun Q hQ => without_q _ _ _ Q hQ) ?_
      simp [new79]
      exact hfin
  · refine AWR_U [2, 3, 5] [true, true, false, false] rfl (by kernel_rfl) ?_
    simp [addE, permL, okFn_low, aF, aT, hI, hz, ex]
    first | refine exX_mk (fun Q hQ => open_q hs hn S Z _ Q hQ) (.refl _) ?_ | refine exX_mk (fun Q hQ => open_q hs hn S Z _ Q hQ) (ex _) ?_ | refine exC_mk (fun Q hQ => open_q hs hn S Z _ Q hQ) ?_
    simp [okFn_low]
    first | refine exX_mk (fun Q hQ => without_q _ _ _ Q hQ) (.refl _) ?_ | refine exX_mk (fun Q hQ => without_q _ _ _ Q hQ) (ex _) ?_ | refine exC_mk (fun Q hQ => without_q _ _ _ Q hQ) ?_
    simp [new79]
    exact hfin
end Go.Proofs.Ytfbpgnjeafadmaa.Fl

/- Plant and Keep. -/
namespace Go.Proofs.Ytfbpgnjeafadmaa.Fl
open Go Go.Proofs.Ytfbpgnjeafadmaa Go.Proofs.Ytfbpgnjeafadmaa.AX
set_option maxRecDepth 100000

theorem least_q {r c : Nat} (hs : Sd r c) (H : AH) (Q : AV → AH → Prop) (h : Q (.int .i64 ((r + c + 1) / 2 : Nat)) H) : AC Try.prog 72 [.agg [.int .i64 r, .int .i64 c]] H Q := by
  refine AC.quiet (belB_int _ _ _ _) (fun Q h => ?_) Q h
  have h1 := hs.r5
  have h2 := hs.c5
  have e1 : ((r : Int) + c) = ((r + c : Nat) : Int) := by omega
  have e2 : (((r + c : Nat) : Int) + 1) = ((r + c + 1 : Nat) : Int) := by omega
  have e3 := quo_nat (r + c + 1) 2
  obtain ⟨a, ha⟩ : ∃ a, r + c = a := ⟨_, rfl⟩
  obtain ⟨b, hb⟩ : ∃ b, r + c + 1 = b := ⟨_, rfl⟩
  obtain ⟨d, hd⟩ : ∃ d, b / 2 = d := ⟨_, rfl⟩
  rw [hb, hd] at h
  rw [ha] at e1 e2
  rw [← ha, hb] at e2
  rw [hb, hd] at e3
  refine L_body 10 Try.func72 rfl rfl ?_
  refine L_reg [1] (fun K hK => ?_)
  simp [AV.isU, acells]
  apply hK; clear hK K
  have h1 : (H ++ [AObj.row [.int .i64 r, .int .i64 c] 0 0 false])[H.length]? = some (.row [.int .i64 r, .int .i64 c] 0 0 false) := by simp
  have hE : Ext H (H ++ [AObj.row [.int .i64 r, .int .i64 c] 0 0 false]) := .push _ _
  generalize H ++ [AObj.row [.int .i64 r, .int .i64 c] 0 0 false] = H1 at h1 hE ⊢
  have a0 := ld_f0 h1
  have a1 := ld_f1 h1
  have e4 : (a : Int) + 1 = b := by omega
  have e5 : (b : Int).tdiv 2 = d := e3
  refine L_reg [2] (fun K hK => ?_)
  simp [a0, a1, e1, e4, e5, wrap_i64 (a := (a : Int)) (by omega), wrap_i64 (a := (b : Int)) (by omega), wrap_i64 (a := (d : Int)) (by omega)]
  apply hK; clear hK K
  exact L_ret ⟨.inr rfl, _, rfl, h _ hE⟩
/-- Whether beetles reach all from some. -/
def fitP (r c n : Nat) (T : Nat → Bool) : Bool := (List.range 25).all fun i => sp r c 2 (lt' n) T i == lt' n i
theorem fitP_q {r c n : Nat} (hs : Sd r c) (hn : r * c = n) (pa pb sa sb : Nat) (H : AH) (ha : H[pa]? = some (.row [.int .i64 r, .int .i64 c] 0 sa false)) (hb : H[pb]? = some (.row (bA (lt' n)) 0 sb false)) (T : Nat → Bool) (hT : ∀ b, T b = true → lt' n b = true) (Q : AV → AH → Prop) (h : Q (.bool (fitP r c n T)) H) : AC Try.prog 74 (.agg (bA T) :: [.ptr pa 0 0, .ptr pb 0 0]) H Q := by
  refine AC.quiet (belB_bool _ _ _) (fun Q h => ?_) Q h
  refine L_body 11 Try.func74 rfl rfl ?_
  refine L_reg [1, 2, 3] (fun K hK => ?_)
  simp [AV.isU, acells]
  apply hK; clear hK K
  have h3 : (H ++ [AObj.row (bA T) 0 0 false])[H.length]? = some (.row (bA T) 0 0 false) := by simp
  have hE : Ext H (H ++ [AObj.row (bA T) 0 0 false]) := .push _ _
  replace ha := hE.row ha
  replace hb := hE.row hb
  generalize H ++ [AObj.row (bA T) 0 0 false] = H1 at ha hb h3 hE ⊢
  have a1 := ldn_f ha
  have a2 := ldn_b hb
  have a3 := ldn_b h3
  refine L_regZ mixed [] [0, 0, 0, 0, 1] [] [4] (by kernel_rfl) (fun K hK => ?_)
  simp [okFn_low, a1, a2, a3]
  refine exX_mk (fun Q hQ => reached_q hs hn 2 T (lt' n) (fun b hb => by simpa [lt'] using hT b hb) _ Q hQ) (.refl _) ?_
  simp [a2, b_eqB]
  apply hK; clear hK K
  refine L_ret ⟨.inr rfl, _, rfl, ?_⟩
  simpa [fitP] using h _ hE
def fitK (r c n : Nat) (S Z : Nat → Bool) (b : Nat) (T : Nat → Bool) : Bool := !sp r c 2 (opn n (or' Z T)) S b
theorem fitK_q {r c n : Nat} (hs : Sd r c) (hn : r * c = n) (S Z : Nat → Bool) (hS : ∀ b, S b = true → b < n) (b : Nat) (hb : b < n) (pa pb sa sb : Nat) (H : AH) (ha : H[pa]? = some (.row (fl r c S Z) 0 sa false)) (hbb : H[pb]? = some (.row [.int .i64 b] 0 sb false)) (T : Nat → Bool) (Q : AV → AH → Prop) (h : Q (.bool (fitK r c n S Z b T)) H) : AC Try.prog 81 (.agg (bA T) :: [.ptr pa 0 0, .ptr pb 0 0]) H Q := by
  refine AC.quiet (belB_bool _ _ _) (fun Q h => ?_) Q h
  refine L_body 9 Try.func81 rfl rfl ?_
  refine L_reg [1, 2, 3] (fun K hK => ?_)
  simp [AV.isU, acells]
  apply hK; clear hK K
  have h3 : (H ++ [AObj.row (bA T) 0 0 false])[H.length]? = some (.row (bA T) 0 0 false) := by simp
  have hE : Ext H (H ++ [AObj.row (bA T) 0 0 false]) := .push _ _
  replace ha := hE.row ha
  replace hbb := hE.row hbb
  generalize H ++ [AObj.row (bA T) 0 0 false] = H1 at ha hbb h3 hE ⊢
  have a1 := ldn_F ha
  have a2 : ld H1 pb 0 0 = some (.int .i64 b) := by rw [ld_row hbb]; rfl
  have a3 := ldn_b h3
  refine L_reg [4] (fun K hK => ?_)
  simp [okFn_low, a1, a2, a3]
  refine keeps_q hs hn S Z T hS b hb _ _ ?_
  simp
  apply hK; clear hK K
  exact L_ret ⟨.inr rfl, _, rfl, h _ hE⟩
/-- The first least lists from which beetles reach all. -/
def plantS (r c n : Nat) : List Int := num (chP (fitP r c n) (lt' n) ((r + c + 1) / 2) 0 none').1
theorem Plant_ac (m k : Int) (H : AH) (Q : AV → AH → Prop) (h0 : ¬ okSides m k → Q (.tuple [.slice none 0 0 0 1 false, .int .i64 1]) H)
    (h : okSides m k → ∀ v' H', OwnN H.length H' v' (plantS m.toNat k.toNat (m.toNat * k.toNat)) → Ext H H' → Q (.tuple [v', .int .i64 0]) H') : AC Try.prog 36 [.int .i64 m, .int .i64 k] H Q := by
  refine L_body 35 Try.func36 rfl rfl ?_
  obtain ⟨I, hI, hz⟩ := zeroT_some zt79'
  obtain ⟨J, hJ, hy⟩ := zeroT_some zt77
  refine L_reg [0, 1] (fun K hK => ?_)
  simp
  apply hK; clear hK K
  refine L_reg [0, 1, 6] (fun K hK => ?_)
  simp [okFn_low]
  refine checkSides_q m k _ _ ?_
  simp
  apply hK; clear hK K
  refine L_reg [0, 1, 6, 16] (fun K hK => ?_)
  simp
  apply hK; clear hK K
  by_cases hsd : okSides m k
  case neg =>
    have hsd2 : ¬ ((1 ≤ m ∧ m ≤ 5) ∧ 1 ≤ k ∧ k ≤ 5) := hsd
    refine L_true (by simp [hsd2]) ?_
    refine L_reg [4, 5] (fun K hK => ?_)
    simp [hsd2]
    apply hK; clear hK K
    exact L_ret ⟨.inr rfl, _, rfl, h0 hsd⟩
  have hsd2 : (1 ≤ m ∧ m ≤ 5) ∧ 1 ≤ k ∧ k ≤ 5 := hsd
  have hs := hsd.sd
  have hq := h hsd
  clear h h0
  obtain ⟨r, hr⟩ : ∃ r : Nat, m = r := ⟨m.toNat, by omega⟩
  obtain ⟨c, hc⟩ : ∃ c : Nat, k = c := ⟨k.toNat, by omega⟩
  refine L_false (by simp [hsd2]) ?_
  subst hr hc
  rw [Int.toNat_natCast, Int.toNat_natCast] at hs hq
  obtain ⟨n, hn⟩ : ∃ n, r * c = n := ⟨_, rfl⟩
  rw [hn] at hq
  have h25 := hs.le
  clear hsd hsd2
  have hst1 : storeV Try.prog 77 (H ++ [AObj.row [.int .i64 0, .int .i64 0] 0 0 false]) (.ptr H.length 0 0) (.agg [.int .i64 r, .int .i64 c]) = some (none, H ++ [AObj.row [.int .i64 r, .int .i64 c] 0 0 false]) := by
    rw [store_agg ag77 (c := [.int .i64 0, .int .i64 0]) (s := 0) (by simp) (by decide) rfl (by simp) rfl (by simp [AV.one])]
    simp
  refine L_reg [7] (fun K hK => ?_)
  simp [hJ, hy, hst1]
  apply hK; clear hK K
  have h7 : (H ++ [AObj.row [.int .i64 r, .int .i64 c] 0 0 false])[H.length]? = some (.row [.int .i64 r, .int .i64 c] 0 0 false) := by simp
  have hl : (H ++ [AObj.row [.int .i64 r, .int .i64 c] 0 0 false]).length = H.length + 1 := by simp
  have hE : Ext H (H ++ [AObj.row [.int .i64 r, .int .i64 c] 0 0 false]) := .push _ _
  clear hst1
  generalize H ++ [AObj.row [.int .i64 r, .int .i64 c] 0 0 false] = H1 at h7 hl hE ⊢
  have a7 := ldn_f h7
  refine L_reg [7, 8] (fun K hK => ?_)
  simp [okFn_low, a7]
  refine all_q hs hn _ _ ?_
  simp [hI, hz, new79]
  apply hK; clear hK K
  have h8 : (H1 ++ [AObj.row (bA (lt' n)) 0 0 false])[H.length + 1]? = some (.row (bA (lt' n)) 0 0 false) := by rw [← hl]; simp
  have hL : (H1 ++ [AObj.row (bA (lt' n)) 0 0 false]).length = H.length + 2 := by simp [hl]
  have hE2 : Ext H1 (H1 ++ [AObj.row (bA (lt' n)) 0 0 false]) := .push _ _
  rw [hl]
  replace h7 := hE2.row h7
  replace hE := hE.trans hE2
  clear a7 hE2 hl
  generalize H1 ++ [AObj.row (bA (lt' n)) 0 0 false] = H2 at h7 h8 hE hL ⊢
  refine L_reg [7, 8, 9] (fun K hK => ?_)
  simp
  apply hK; clear hK K
  have a7 := ldn_f h7
  have a8 := ldn_b h8
  have ex : ∀ l : AH, Ext H2 (H2 ++ l) := fun l => .push _ _
  have hcl : ∀ H', Ext H2 H' → ∀ T, (∀ b, T b = true → lt' n b = true) → ∀ Q : AV → AH → Prop, Q (.bool (fitP r c n T)) H' → AC Try.prog 74 (.agg (bA T) :: [.ptr H.length 0 0, .ptr (H.length + 1) 0 0]) H' Q := fun H' hE' T hT Q hQ => fitP_q hs hn _ _ 0 0 H' (hE'.row h7) (hE'.row h8) T hT Q hQ
  have hlst : (r + c + 1) / 2 ≤ 100 := by have := hs.r5; have := hs.c5; omega
  obtain ⟨d, hd⟩ : ∃ d, (r + c + 1) / 2 = d := ⟨_, rfl⟩
  rw [hd] at hlst
  unfold plantS at hq
  rw [hd] at hq
  obtain ⟨A, hA⟩ : ∃ A, chP (fitP r c n) (lt' n) d 0 none' = A := ⟨_, rfl⟩
  rw [hA] at hq
  have hch : ∀ H' : AH, Ext H2 H' → ∀ Q : AV → AH → Prop, Q (.tuple [.agg (bA A.1), .bool A.2]) H' → AC Try.prog 76 [.agg (bA (lt' n)), .agg (bA none'), .int .i64 0, .int .i64 d, .func (.func 74) [] [.ptr H.length 0 0, .ptr (H.length + 1) 0 0]] H' Q := fun H' hE' Q hQ => by
    have := choose_q 74 [.ptr H.length 0 0, .ptr (H.length + 1) 0 0] (fitP r c n) (lt' n) (okFn_low (by omega) (by omega)) d 0 none' H' Q (by omega) hlst (fun b hb => by simp [none'] at hb) (fun H'' h'' => hcl H'' (hE'.trans h'')) (by rw [hA]; exact hQ)
    exact this
  have hls : ∀ (H' : AH) (Q : AV → AH → Prop), Q (.int .i64 (d : Nat)) H' → AC Try.prog 72 [.agg [.int .i64 r, .int .i64 c]] H' Q := fun H' Q hQ => least_q hs H' Q (by rw [hd]; exact hQ)
  refine L_regR mixed (fun K hK => ?_)
  have hfin : K .normal [(10, .ptr H2.length 0 0)] (H2 ++ [AObj.row (bA A.1) 0 0 false]) := by
    apply hK; clear hK K
    have h10 : (H2 ++ [AObj.row (bA A.1) 0 0 false])[H2.length]? = some (.row (bA A.1) 0 0 false) := by simp
    have a10 := ldn_b h10
    refine L_reg [4, 5] (fun K hK => ?_)
    simp [okFn_low, a10]
    refine list_ac _ _ _ (fun v H3 hN hE2 => ?_)
    have hO := hN.2
    simp
    apply hK; clear hK K
    refine L_ret ⟨.inr rfl, _, rfl, hq v H3 ⟨hN.1, ?_⟩ (hE.trans ((ex _).trans hE2))⟩
    exact ownF_less hO (by have := hE.1; simp; omega)
  refine AWR_pair (x := 3) (y := 9) (ord := [0, 1, 2, 4, 9, 3, 5, 6, 7, 8, 10, 11]) (by kernel_rfl) ?_ ?_
  · refine AWR_pair (x := 5) (y := 9) (ord := [0, 1, 2, 3, 4, 9, 5, 6, 7, 8, 10, 11]) (by kernel_rfl) ?_ ?_
    · refine AWR_U [10] [true, false, false, false] rfl (by kernel_rfl) ?_
      simp [addE, okFn_low, a7, a8, bd79]
      first | refine exX_mk (fun Q hQ => hls _ Q hQ) (.refl _) ?_ | refine exX_mk (fun Q hQ => hls _ Q hQ) (ex _) ?_ | refine exC_mk (fun Q hQ => hls _ Q hQ) ?_
      simp [okFn_low]
      first | refine exX_mk (fun Q hQ => hch _ (by first | exact .refl _ | exact ex _) Q hQ) (.refl _) ?_ | refine exX_mk (fun Q hQ => hch _ (by first | exact .refl _ | exact ex _) Q hQ) (ex _) ?_ | refine exC_mk (fun Q hQ => hch _ (by first | exact .refl _ | exact ex _) Q hQ) ?_
      simp [hI, hz, new79]
      exact hfin
    · refine AWR_U [10] [true, false, false, false, false, false] rfl (by kernel_rfl) ?_
      simp [addE, permL, okFn_low, a7, a8, bd79]
      first | refine exX_mk (fun Q hQ => hls _ Q hQ) (.refl _) ?_ | refine exX_mk (fun Q hQ => hls _ Q hQ) (ex _) ?_ | refine exC_mk (fun Q hQ => hls _ Q hQ) ?_
      simp [okFn_low, hI, hz, ex]
      first | refine exX_mk (fun Q hQ => hch _ (by first | exact .refl _ | exact ex _) Q hQ) (.refl _) ?_ | refine exX_mk (fun Q hQ => hch _ (by first | exact .refl _ | exact ex _) Q hQ) (ex _) ?_ | refine exC_mk (fun Q hQ => hch _ (by first | exact .refl _ | exact ex _) Q hQ) ?_
      simp [new79]
      exact hfin
  · refine AWR_U [10] [true, false, true, false, false, false] rfl (by kernel_rfl) ?_
    simp [addE, permL, okFn_low, a7, a8, hI, hz, bd79, ex]
    first | refine exX_mk (fun Q hQ => hls _ Q hQ) (.refl _) ?_ | refine exX_mk (fun Q hQ => hls _ Q hQ) (ex _) ?_ | refine exC_mk (fun Q hQ => hls _ Q hQ) ?_
    simp [okFn_low]
    first | refine exX_mk (fun Q hQ => hch _ (by first | exact .refl _ | exact ex _) Q hQ) (.refl _) ?_ | refine exX_mk (fun Q hQ => hch _ (by first | exact .refl _ | exact ex _) Q hQ) (ex _) ?_ | refine exC_mk (fun Q hQ => hch _ (by first | exact .refl _ | exact ex _) Q hQ) ?_
    simp [new79]
    exact hfin
end Go.Proofs.Ytfbpgnjeafadmaa.Fl

/- Keep. -/
namespace Go.Proofs.Ytfbpgnjeafadmaa.Fl
open Go Go.Proofs.Ytfbpgnjeafadmaa Go.Proofs.Ytfbpgnjeafadmaa.AX
set_option maxRecDepth 100000

theorem colS_sup {n : Nat} {T : Nat → Bool} : ∀ (l : List Int) {S : Nat → Bool}, (∀ b, S b = true → b < n) → ∀ b, (colS n T S l).1 b = true → b < n
  | [], S, hS, b, h => hS b h
  | x :: l, S, hS, b, h => by
    simp only [colS] at h
    split at h
    · simp [none'] at h
    · rename_i h1
      split at h
      · simp [none'] at h
      · split at h
        · simp [none'] at h
        · refine colS_sup l (fun y hy => ?_) b h
          unfold upd at hy
          split at hy
          · rename_i e; subst e; omega
          · exact hS y hy
theorem sickS_sup (m k : Int) (l : List Int) (b : Nat) (h : (sickS m k l).1 b = true) : b < m.toNat * k.toNat := colS_sup l (fun b hb => by simp [none'] at hb) b h
theorem coldS_sup (m k : Int) (l o : List Int) (b : Nat) (h : (coldS m k l o).1 b = true) : b < m.toNat * k.toNat := colS_sup o (fun b hb => by simp [none'] at hb) b h
def lostS (r c : Nat) (S Z : Nat → Bool) (b : Nat) : Bool := S b || (!Z b && decide (2 ≤ bes r c S b))
/-- The bales that may be frozen to keep one. -/
def freeS (n : Nat) (S Z : Nat → Bool) (b : Nat) : Nat → Bool := upd (sub' (opn n Z) S) b false
theorem chk_sides {m k : Int} {l o : List Int} (h : chkE m k l o = 0) : okSides m k := by
  unfold chkE at h
  split at h
  · assumption
  · cases h
theorem chk_F {m k : Int} {l o : List Int} (h : chkE m k l o = 0) : chkF m k l o = fl m.toNat k.toNat (sickS m k l).1 (coldS m k l o).1 := by
  unfold chkF; rw [if_pos h]
theorem new81 (H : AH) (r c : Nat) (S Z : Nat → Bool) : storeV Try.prog 81 (H ++ [AObj.row (fl 0 0 none' none') 0 0 false]) (.ptr H.length 0 0) (.agg (fl r c S Z)) = some (none, H ++ [AObj.row (fl r c S Z) 0 0 false]) := by
  rw [st_F (r := 0) (c := 0) (S := none') (Z := none') (s := 0) (by simp)]
  simp
theorem new81F (H : AH) (m k : Int) (l o : List Int) : storeV Try.prog 81 (H ++ [AObj.row (fl 0 0 none' none') 0 0 false]) (.ptr H.length 0 0) (.agg (chkF m k l o)) = some (none, H ++ [AObj.row (chkF m k l o) 0 0 false]) := by
  unfold chkF
  split <;> exact new81 ..
theorem Keep_ac (m k : Int) (u w : AV) (l o : List Int) (b : Int) (H : AH) (Q : AV → AH → Prop) (hu : Ls H u l) (hw : Ls H w o) (hl : l.length ≤ 1000000) (ho : o.length ≤ 1000000)
    (he : chkE m k l o ≠ 0 → ∀ H', Ext H H' → Q (.tuple [.slice none 0 0 0 1 false, .int .i64 (chkE m k l o)]) H')
    (h2 : chkE m k l o = 0 → ¬ (0 ≤ b ∧ b < (m.toNat * k.toNat : Nat)) → ∀ H', Ext H H' → Q (.tuple [.slice none 0 0 0 1 false, .int .i64 2]) H')
    (h12 : chkE m k l o = 0 → (0 ≤ b ∧ b < (m.toNat * k.toNat : Nat)) → lostS m.toNat k.toNat (sickS m k l).1 (coldS m k l o).1 b.toNat = true → ∀ H', Ext H H' → Q (.tuple [.slice none 0 0 0 1 false, .int .i64 12]) H')
    (hex : chkE m k l o = 0 → (0 ≤ b ∧ b < (m.toNat * k.toNat : Nat)) → lostS m.toNat k.toNat (sickS m k l).1 (coldS m k l o).1 b.toNat = false → ∃ j, j ≤ 25 ∧ (chP (fitK m.toNat k.toNat (m.toNat * k.toNat) (sickS m k l).1 (coldS m k l o).1 b.toNat) (freeS (m.toNat * k.toNat) (sickS m k l).1 (coldS m k l o).1 b.toNat) j 0 none').2 = true)
    (hq : chkE m k l o = 0 → (0 ≤ b ∧ b < (m.toNat * k.toNat : Nat)) → lostS m.toNat k.toNat (sickS m k l).1 (coldS m k l o).1 b.toNat = false → ∀ j, j ≤ 25 → (∀ i, i < j → (chP (fitK m.toNat k.toNat (m.toNat * k.toNat) (sickS m k l).1 (coldS m k l o).1 b.toNat) (freeS (m.toNat * k.toNat) (sickS m k l).1 (coldS m k l o).1 b.toNat) i 0 none').2 = false) →
      (chP (fitK m.toNat k.toNat (m.toNat * k.toNat) (sickS m k l).1 (coldS m k l o).1 b.toNat) (freeS (m.toNat * k.toNat) (sickS m k l).1 (coldS m k l o).1 b.toNat) j 0 none').2 = true → ∀ v' H', OwnN H.length H' v' (num (chP (fitK m.toNat k.toNat (m.toNat * k.toNat) (sickS m k l).1 (coldS m k l o).1 b.toNat) (freeS (m.toNat * k.toNat) (sickS m k l).1 (coldS m k l o).1 b.toNat) j 0 none').1) → Ext H H' → Q (.tuple [v', .int .i64 0]) H') :
    AC Try.prog 38 [.agg [.int .i64 m, .int .i64 k, u, w], .int .i64 b] H Q := by
  refine L_body 50 Try.func38 rfl rfl ?_
  obtain ⟨I, hI, hz⟩ := zeroT_some zt79'
  obtain ⟨J, hJ, hy⟩ := zeroT_some zt81'
  have hS0 := sickS_sup m k l
  refine L_reg [2, 3] (fun K hK => ?_)
  simp [AV.isU, acells]
  apply hK; clear hK K
  have b2 : (H ++ [AObj.row [.int .i64 m, .int .i64 k, u, w] 0 0 false, AObj.row [.int .i64 b] 0 0 false])[H.length]? = some (.row [.int .i64 m, .int .i64 k, u, w] 0 0 false) := by simp
  have b3 : (H ++ [AObj.row [.int .i64 m, .int .i64 k, u, w] 0 0 false, AObj.row [.int .i64 b] 0 0 false])[H.length + 1]? = some (.row [.int .i64 b] 0 0 false) := by simp
  have hL : (H ++ [AObj.row [.int .i64 m, .int .i64 k, u, w] 0 0 false, AObj.row [.int .i64 b] 0 0 false]).length = H.length + 2 := by simp
  have hE : Ext H (H ++ [AObj.row [.int .i64 m, .int .i64 k, u, w] 0 0 false, AObj.row [.int .i64 b] 0 0 false]) := .push _ _
  generalize H ++ [AObj.row [.int .i64 m, .int .i64 k, u, w] 0 0 false, AObj.row [.int .i64 b] 0 0 false] = H1 at b2 b3 hL hE ⊢
  have a2 := ldn4 b2 (ls_known hu) (ls_known hw)
  refine L_reg [3, 6, 7] (fun K hK => ?_)
  simp [okFn_low, a2]
  refine checked_q m k u w l o _ _ (hu.ext hE) (hw.ext hE) hl ho ?_
  simp [hJ, hy, new81F]
  apply hK; clear hK K
  have b6 : (H1 ++ [AObj.row (chkF m k l o) 0 0 false])[H.length + 2]? = some (.row (chkF m k l o) 0 0 false) := by rw [← hL]; simp
  have hE2 : Ext H1 (H1 ++ [AObj.row (chkF m k l o) 0 0 false]) := .push _ _
  rw [hL]
  replace b3 := hE2.row b3
  replace hE := hE.trans hE2
  clear a2 hE2 b2
  generalize H1 ++ [AObj.row (chkF m k l o) 0 0 false] = H2 at b3 b6 hE ⊢
  refine L_reg [3, 6, 7, 19] (fun K hK => ?_)
  simp
  apply hK; clear hK K
  by_cases hc0 : chkE m k l o = 0
  case neg =>
    refine L_true (by simp [hc0]) ?_
    refine L_reg [4, 5] (fun K hK => ?_)
    simp
    apply hK; clear hK K
    exact L_ret ⟨.inr rfl, _, rfl, he hc0 _ hE⟩
  replace h2 := h2 hc0
  replace h12 := h12 hc0
  replace hex := hex hc0
  replace hq := hq hc0
  clear he
  refine L_false (by simp [hc0]) ?_
  rw [chk_F hc0] at b6
  have hs := (chk_sides hc0).sd
  clear hc0
  generalize (sickS m k l).1 = S at *
  generalize (coldS m k l o).1 = Z at *
  generalize m.toNat = r at *
  generalize k.toNat = c at *
  obtain ⟨n, hn⟩ : ∃ n, r * c = n := ⟨_, rfl⟩
  rw [hn] at h2 h12 hex hq hS0
  have h25 := hs.le
  rw [hn] at h25
  have a6 := ldn_F0 b6
  have a3 : ld H2 (H.length + 1) 0 0 = some (.int .i64 b) := by rw [ld_row b3]; rfl
  refine L_reg [3, 6, 25] (fun K hK => ?_)
  simp [okFn_low, a6, a3]
  refine has_q hs hn b _ _ ?_
  simp
  apply hK; clear hK K
  by_cases hb : 0 ≤ b ∧ b < (n : Nat)
  case neg =>
    refine L_true (by simp; omega) ?_
    refine L_reg [4, 5] (fun K hK => ?_)
    simp
    apply hK; clear hK K
    exact L_ret ⟨.inr rfl, _, rfl, h2 hb _ hE⟩
  replace h12 := h12 hb
  replace hex := hex hb
  replace hq := hq hb
  obtain ⟨x, rfl⟩ : ∃ x : Nat, b = x := ⟨b.toNat, by omega⟩
  rw [Int.toNat_natCast] at h12 hex hq
  have hxn : x < n := by omega
  have hx25 : x < 25 := by omega
  refine L_false (by simp; omega) ?_
  have a7 := ldn_F b6
  refine L_reg [3, 6, 28] (fun K hK => ?_)
  simp [okFn_low, a7, a3]
  refine lost_q hs hn S Z x hxn _ _ ?_
  simp
  apply hK; clear hK K
  rw [← lostS] at *
  cases hlo : lostS r c S Z x with
  | true =>
    refine L_true (by simp) ?_
    refine L_reg [4, 5] (fun K hK => ?_)
    simp
    apply hK; clear hK K
    exact L_ret ⟨.inr rfl, _, rfl, h12 hlo _ hE⟩
  | false =>
  replace hex := hex hlo
  replace hq := hq hlo
  clear h12 h2
  refine L_false (by simp) ?_
  have a8 := ldn_F1 b6
  have ex : ∀ l : AH, Ext H2 (H2 ++ l) := fun l => .push _ _
  refine L_regR mixed (fun K hK => ?_)
  have hfin : K .normal [(3, .ptr (H.length + 1) 0 0), (6, .ptr (H.length + 2) 0 0), (8, .ptr H2.length 0 0)] (H2 ++ [AObj.row (bA (sub' (opn n Z) S)) 0 0 false]) := by
    apply hK; clear hK K
    have b8 : (H2 ++ [AObj.row (bA (sub' (opn n Z) S)) 0 0 false])[H2.length]? = some (.row (bA (sub' (opn n Z) S)) 0 0 false) := by simp
    have hl2 : H.length + 3 ≤ H2.length := by
      have := (List.getElem?_eq_some_iff.1 b6).1
      omega
    have hE2 := ex [AObj.row (bA (sub' (opn n Z) S)) 0 0 false]
    obtain ⟨y, hy8⟩ : ∃ y, H2.length = y := ⟨_, rfl⟩
    rw [hy8] at b8 hl2 ⊢
    replace b3 := hE2.row b3
    replace b6 := hE2.row b6
    replace hE := hE.trans hE2
    clear a3 a6 a7 a8 ex hE2
    generalize H2 ++ [AObj.row (bA (sub' (opn n Z) S)) 0 0 false] = H3 at b3 b6 b8 hE ⊢
    have a3 : ld H3 (H.length + 1) 0 0 = some (.int .i64 x) := by rw [ld_row b3]; rfl
    have hxi : (x : Int) < 25 := by omega
    have hst := st_b (v := false) b8 hx25
    refine L_reg [3, 6, 8] (fun K hK => ?_)
    simp [a3, hxi, hst]
    apply hK; clear hK K
    have c8 := get_set (o' := .row (bA (upd (sub' (opn n Z) S) x false)) 0 (min 0 x) false) b8
    have c3 : (H3.set y (.row (bA (upd (sub' (opn n Z) S) x false)) 0 (min 0 x) false))[H.length + 1]? = some (.row [.int .i64 x] 0 0 false) := by rw [List.getElem?_set_ne (by omega)]; exact b3
    have c6 : (H3.set y (.row (bA (upd (sub' (opn n Z) S) x false)) 0 (min 0 x) false))[H.length + 2]? = some (.row (fl r c S Z) 0 0 false) := by rw [List.getElem?_set_ne (by omega)]; exact b6
    have cE : Ext H (H3.set y (.row (bA (upd (sub' (opn n Z) S) x false)) 0 (min 0 x) false)) := hE.set _ (by omega)
    rw [Nat.zero_min] at c8 c3 c6 cE
    rw [← freeS] at c8 c3 c6 cE
    have e8 : ∀ G : AH → Prop, G (H3.set y (.row (bA (freeS n S Z x)) 0 0 false)) → G (H3.set y (.row (bA (upd (sub' (opn n Z) S) x false)) 0 0 false)) := fun G hG => hG
    clear b3 b6 b8 hE a3 hst
    show AWL _ _ _ _ (H3.set y (.row (bA (freeS n S Z x)) 0 0 false)) _
    generalize H3.set y (.row (bA (freeS n S Z x)) 0 0 false) = H4 at c8 c3 c6 cE ⊢
    clear e8
    refine L_reg [8, 9] (fun K hK => ?_)
    simp
    apply hK; clear hK K
    refine L_reg [8, 9, 10] (fun K hK => ?_)
    simp
    apply hK; clear hK K
    obtain ⟨j0, hj0, hj1⟩ := hex
    refine L_block (L_loopV [10] (fun q vs H' => ∃ i : Nat, q = j0 - i ∧ i ≤ j0 ∧ vs = [.int .i64 i] ∧ Ext H H' ∧ Ext H4 H' ∧ (∀ a, a < i → (chP (fitK r c n S Z x) (freeS n S Z x) a 0 none').2 = false)) _ [.int .i64 (0 : Nat)] rfl ⟨0, rfl, by omega, rfl, cE, .refl _, fun a ha => by omega⟩ ?_)
    rintro q _ H5 ⟨i, rfl, hi, rfl, hE, hE4, hno⟩
    refine L_block ?_
    have d8 := hE4.row c8
    have a8 := ldn_b d8
    have hcl : ∀ H', Ext H5 H' → ∀ T, (∀ b, T b = true → freeS n S Z x b = true) → ∀ Q : AV → AH → Prop, Q (.bool (fitK r c n S Z x T)) H' → AC Try.prog 81 (.agg (bA T) :: [.ptr (H.length + 2) 0 0, .ptr (H.length + 1) 0 0]) H' Q := fun H' hE' T hT Q hQ => fitK_q hs hn S Z hS0 x hxn _ _ 0 0 H' (hE'.row (hE4.row c6)) (hE'.row (hE4.row c3)) T Q hQ
    obtain ⟨A, hA⟩ : ∃ A, chP (fitK r c n S Z x) (freeS n S Z x) i 0 none' = A := ⟨_, rfl⟩
    have hch := choose_q 81 [.ptr (H.length + 2) 0 0, .ptr (H.length + 1) 0 0] (fitK r c n S Z x) (freeS n S Z x) (okFn_low (by omega) (by omega)) i 0 none' H5
    rw [hA] at hch
    refine L_reg [8, 9, 10, 11, 12] (fun K hK => ?_)
    simp [okFn_low, a8, bd79]
    refine hch _ (by omega) (by omega) (fun b hb => by simp [none'] at hb) hcl ?_
    simp [hI, hz, new79]
    apply hK; clear hK K
    have d11 : (H5 ++ [AObj.row (bA A.1) 0 0 false])[H5.length]? = some (.row (bA A.1) 0 0 false) := by simp
    have hE6 : Ext H5 (H5 ++ [AObj.row (bA A.1) 0 0 false]) := .push _ _
    have a11 := ldn_b d11
    refine L_reg [8, 9, 10, 11, 47] (fun K hK => ?_)
    simp
    apply hK; clear hK K
    cases hA2 : A.2 with
    | true =>
      refine L_true (by simp) ?_
      refine L_reg [4, 5] (fun K hK => ?_)
      simp [okFn_low, a11]
      refine list_ac _ _ _ (fun v H7 hN hE7 => ?_)
      have hO := hN.2
      simp
      apply hK; clear hK K
      refine L_ret ⟨.inr rfl, _, rfl, hq i (by omega) hno (by rw [hA]; exact hA2) v H7 ?_ ((hE.trans hE6).trans hE7)⟩
      rw [hA]
      refine ⟨hN.1, ?_⟩
      exact ownF_less hO (by have := hE.1; simp; omega)
    | false =>
      have hij : i ≠ j0 := by
        intro e
        rw [e] at hA
        rw [hA, hA2] at hj1
        cases hj1
      refine L_false (by simp) ?_
      refine L_reg [8, 9, 10] (fun K hK => ?_)
      simp [wrap_i64 (a := (i : Int) + 1) (by omega)]
      apply hK; clear hK K
      refine ⟨j0 - (i + 1), [.int .i64 (i + 1 : Nat)], by omega, by simp, i + 1, rfl, by omega, rfl, hE.trans hE6, hE4.trans hE6, fun a ha => ?_⟩
      by_cases hai : a = i
      · subst hai; rw [hA]; exact hA2
      · exact hno a (by omega)
  refine AWR_pair (x := 1) (y := 5) (ord := [0, 2, 3, 5, 1, 4, 6]) (by kernel_rfl) ?_ ?_
  · refine AWR_pair (x := 4) (y := 5) (ord := [0, 1, 2, 3, 5, 4, 6]) (by kernel_rfl) ?_ ?_
    · refine AWR_U [3, 6, 8] [false, false, false, true] rfl (by kernel_rfl) ?_
      simp [addE, okFn_low, a7]
      first | refine exX_mk (fun Q hQ => open_q hs hn S Z _ Q hQ) (.refl _) ?_ | refine exX_mk (fun Q hQ => open_q hs hn S Z _ Q hQ) (ex _) ?_ | refine exC_mk (fun Q hQ => open_q hs hn S Z _ Q hQ) ?_
      simp [okFn_low, a8]
      first | refine exX_mk (fun Q hQ => without_q _ _ _ Q hQ) (.refl _) ?_ | refine exX_mk (fun Q hQ => without_q _ _ _ Q hQ) (ex _) ?_ | refine exC_mk (fun Q hQ => without_q _ _ _ Q hQ) ?_
      simp [hI, hz, new79]
      exact hfin
    · refine AWR_U [3, 6, 8] [false, false, false, true, false] rfl (by kernel_rfl) ?_
      simp [addE, permL, okFn_low, a7]
      first | refine exX_mk (fun Q hQ => open_q hs hn S Z _ Q hQ) (.refl _) ?_ | refine exX_mk (fun Q hQ => open_q hs hn S Z _ Q hQ) (ex _) ?_ | refine exC_mk (fun Q hQ => open_q hs hn S Z _ Q hQ) ?_
      simp [okFn_low, a8, hI, hz, ex]
      first | refine exX_mk (fun Q hQ => without_q _ _ _ Q hQ) (.refl _) ?_ | refine exX_mk (fun Q hQ => without_q _ _ _ Q hQ) (ex _) ?_ | refine exC_mk (fun Q hQ => without_q _ _ _ Q hQ) ?_
      simp [new79]
      exact hfin
  · refine AWR_U [3, 6, 8] [true, false, true, false, false] rfl (by kernel_rfl) ?_
    simp [addE, permL, okFn_low, a7, a8, hI, hz, ex]
    first | refine exX_mk (fun Q hQ => open_q hs hn S Z _ Q hQ) (.refl _) ?_ | refine exX_mk (fun Q hQ => open_q hs hn S Z _ Q hQ) (ex _) ?_ | refine exC_mk (fun Q hQ => open_q hs hn S Z _ Q hQ) ?_
    simp [okFn_low]
    first | refine exX_mk (fun Q hQ => without_q _ _ _ Q hQ) (.refl _) ?_ | refine exX_mk (fun Q hQ => without_q _ _ _ Q hQ) (ex _) ?_ | refine exC_mk (fun Q hQ => without_q _ _ _ Q hQ) ?_
    simp [new79]
    exact hfin
end Go.Proofs.Ytfbpgnjeafadmaa.Fl

/- Days as an array of ints. -/
namespace Go.Proofs.Ytfbpgnjeafadmaa.Fl
open Go Go.Proofs.Ytfbpgnjeafadmaa Go.Proofs.Ytfbpgnjeafadmaa.AX
set_option maxRecDepth 100000

def iA (f : Nat → Int) : List AV := (List.range 25).map fun b => .int .i64 (f b)
theorem iA_len (f : Nat → Int) : (iA f).length = 25 := by simp [iA]
theorem iA_get (f : Nat → Int) {i : Nat} (hi : i < 25) : (iA f)[i]? = some (.int .i64 (f i)) := by
  simp [iA, List.getElem?_range hi]
theorem iA_ext {f h : Nat → Int} (e : ∀ b, b < 25 → f b = h b) : iA f = iA h :=
  List.map_congr_left fun b hb => by rw [e b (List.mem_range.1 hb)]
def updI (f : Nat → Int) (b : Nat) (v : Int) : Nat → Int := fun x => if x = b then v else f x
theorem iA_set (f : Nat → Int) (b : Nat) (v : Int) : (iA f).set b (.int .i64 v) = iA (updI f b v) := by
  refine List.ext_getElem? fun i => ?_
  rw [List.getElem?_set]
  by_cases hi : i < 25
  · rw [iA_get _ hi, iA_get _ hi, iA_len]
    unfold updI
    split
    · rename_i h; subst h; simp [hi]
    · rename_i h; rw [if_neg (fun h' => h h'.symm)]
  · have h1 : ∀ f, (iA f)[i]? = none := fun f => by simp [iA]; omega
    rw [h1, h1, iA_len]
    split
    · simp; omega
    · rfl
theorem iA_one (f : Nat → Int) : ∀ v ∈ iA f, v.one = true := by
  intro x hx
  obtain ⟨y, -, rfl⟩ := List.mem_map.1 hx; rfl
theorem iA_known (f : Nat → Int) : ∀ v ∈ iA f, v ≠ .undef := fun v hv => one_known (iA_one f v hv)
theorem belB_i (N : Nat) (f : Nat → Int) : belB N 4 (.agg (iA f)) = true := by
  simp only [belB, List.all_eq_true]
  intro v hv
  obtain ⟨y, -, rfl⟩ := List.mem_map.1 hv
  exact belB_int ..
section
variable {H : AH} {p s i : Nat} {f h : Nat → Int} {ro : Bool}
theorem ldn_i (hr : H[p]? = some (.row (iA f) 0 s ro)) : ldn H p 0 25 0 = some (iA f) := by
  rw [ldn_row hr]
  simpa [iA_len] using take_all (iA_known f)
theorem st_i {v : Int} (hr : H[p]? = some (.row (iA f) 0 s false)) (hi : i < 25) : storeV Try.prog 3 H (.ptr p i 0) (.int .i64 v) = some (none, H.set p (.row (iA (updI f i v)) 0 (min s i) false)) := by
  rw [store_row (P := Try.prog) (u := 3) (p := i) sc3 (x := .int .i64 v) (y := .int .i64 (f i)) rfl hr (by rw [iA_get f hi]; rfl), iA_set]
theorem st_I (hr : H[p]? = some (.row (iA f) 0 s false)) : storeV Try.prog 87 H (.ptr p 0 0) (.agg (iA h)) = some (none, H.set p (.row (iA h) 0 0 false)) :=
  store_agg ag87 hr (by decide) (iA_len f) (iA_known f) (iA_len h) (iA_one h)
end
theorem zt87' : zeroT Try.prog 87 = some (iA fun _ => 0) := by rw [zt87]; rfl

def prv (r c : Nat) (O S : Nat → Bool) : Nat → Nat → Bool
  | 0 => none'
  | t + 1 => D r c 2 O S t
def dl (r c : Nat) (O S : Nat → Bool) (t b : Nat) : Int := if prv r c O S t b then day r c O S b else -1
variable {r c n : Nat} {O S : Nat → Bool}
theorem prv_sub {t b : Nat} (h : prv r c O S t b = true) : D r c 2 O S t b = true := by
  cases t with
  | zero => cases h
  | succ t => exact D_grow h
theorem day_new {t b : Nat} (ht : t ≤ 25) (h1 : prv r c O S t b = false) (h2 : D r c 2 O S t b = true) : day r c O S b = (t : Nat) := by
  cases t with
  | zero =>
    have := (day_iff (t := 0) (b := b) (r := r) (c := c) (O := O) (S := S) (by omega)).2 h2
    omega
  | succ t => exact dayT_new (by omega) h1 h2
theorem dl_end (hS : ∀ b, S b = true → b < r * c) (hn : r * c ≤ 25) {t : Nat} (h : D r c 2 O S t = prv r c O S t) (b : Nat) : dl r c O S t b = day r c O S b := by
  cases t with
  | zero =>
    have h0 : S = none' := h
    have hd : ∀ t b, D r c 2 O S t b = false := by
      intro t
      induction t with
      | zero => intro b; show S b = false; rw [h0]; rfl
      | succ t ih =>
        intro b
        have : D r c 2 O S t = none' := funext ih
        rw [D_succ, this]
        have : bes r c none' b = 0 := by
          unfold bes
          rw [List.countP_eq_zero]
          intro x _
          simp [none']
        simp [nxt, none', this]
    have hday : ¬ 0 ≤ day r c O S b := by
      intro h9
      have := (day_iff (t := 25) (b := b) (r := r) (c := c) (O := O) (S := S) (by omega)).1 ⟨h9, (day_range b).2⟩
      rw [hd] at this; cases this
    have := (day_range (r := r) (c := c) (O := O) (S := S) b).1
    show (if none' b = true then _ else _) = _
    rw [if_neg (by simp [none'])]
    omega
  | succ t => exact dayT_end hS hn b (sp_stop hS h)
/-- The days while new bales are written. -/
def dj (r c : Nat) (O S : Nat → Bool) (t j b : Nat) : Int := if prv r c O S t b then day r c O S b else if (b : Int) ∈ (num (sub' (D r c 2 O S t) (prv r c O S t))).take j then (t : Nat) else -1
theorem dj_zero (t : Nat) : dj r c O S t 0 = dl r c O S t := by
  funext b
  simp [dj, dl]
theorem dj_succ {t j b : Nat} (hj : j < (num (sub' (D r c 2 O S t) (prv r c O S t))).length) (hb : g (num (sub' (D r c 2 O S t) (prv r c O S t))) j = b) (hp : prv r c O S t b = false) : updI (dj r c O S t j) b (t : Nat) = dj r c O S t (j + 1) := by
  funext x
  unfold updI dj
  rw [List.take_add_one, List.getElem?_eq_getElem hj, ← g_lt hj, hb]
  by_cases hx : x = b
  · subst hx
    simp [hp]
  · rw [if_neg hx]
    have : ((x : Int) ∈ List.take j (num (sub' (D r c 2 O S t) (prv r c O S t))) ++ (some (b : Int)).toList) ↔ ((x : Int) ∈ List.take j (num (sub' (D r c 2 O S t) (prv r c O S t)))) := by
      simp
      omega
    simp only [this]
theorem dj_end {t : Nat} (ht : t ≤ 25) : iA (dj r c O S t (num (sub' (D r c 2 O S t) (prv r c O S t))).length) = iA (dl r c O S (t + 1)) := by
  refine iA_ext fun b hb => ?_
  unfold dj dl
  rw [List.take_length]
  show _ = if D r c 2 O S t b = true then _ else _
  cases hp : prv r c O S t b with
  | true => rw [if_pos rfl, if_pos (prv_sub hp)]
  | false =>
    rw [if_neg (by decide)]
    cases hd : D r c 2 O S t b with
    | true =>
      rw [if_pos (mem_num.2 ⟨b, hb, by simp [sub', hd, hp], rfl⟩), if_pos rfl, day_new ht hp hd]
    | false =>
      have hm : ¬ (b : Int) ∈ num (sub' (D r c 2 O S t) (prv r c O S t)) := by
        intro hm
        obtain ⟨x, -, h2, h3⟩ := mem_num.1 hm
        have : x = b := by omega
        subst this
        simp [sub', hd] at h2
      rw [if_neg hm, if_neg (by decide)]
end Go.Proofs.Ytfbpgnjeafadmaa.Fl
