/- Joined texts: Base, TF, HFacts, HSpan, HPoss, Kern, Works, WCho, Laid. -/
import Derived.Test.YtengokpphglodaaDoorChecked
import Derived.Test.YtengokpphglodaaDoorAxQ
import Derived.Test.YtengokpphglodaaDoorAxR
import Derived.Test.YtengokpphglodaaDoorAxT
import Derived.Test.YtengokpphglodaaDoorRows
import Derived.LaidMore
import Derived.OpenShut
import Derived.Stop.Joined
import Derived.SevenTiedAt
/- What is run, and what is kept between its statements. -/
namespace Go.Proofs.YtengokpphglodaaDoor
open Go Go.Proofs.YtengokpphglodaaDoor.AX Go.RowKit
set_option maxRecDepth 100000

def keepT (f : Nat) : List Nat :=
  bif Nat.ble f 41 then bif Nat.ble f 20 then bif Nat.ble f 10 then bif Nat.ble f 5 then bif Nat.ble f 2 then bif Nat.ble f 1 then bif Nat.ble f 0 then [] else [] else [] else bif Nat.ble f 4 then bif Nat.ble f 3 then [0, 1, 2, 6, 7, 8, 9, 10, 11, 12, 13, 14, 15, 16, 17, 18, 19, 20, 21, 22, 23, 24, 25, 26, 52, 76, 85, 86, 87, 88, 120, 121, 122, 123, 128, 155, 165, 184] else [0, 1, 4, 5, 6, 11] else [0, 1, 2, 6, 7, 8, 13, 23] else bif Nat.ble f 8 then bif Nat.ble f 7 then bif Nat.ble f 6 then [0, 1, 4, 5, 6, 8, 12, 14, 15, 16, 17, 26, 29] else [0, 1, 3, 4, 5, 6, 7, 8, 9, 10, 12, 27, 28, 29, 30] else [0, 2, 3, 4, 5, 6, 7, 9, 13, 18, 19, 20, 21, 28, 29, 30, 31, 36] else bif Nat.ble f 9 then [0, 1, 4, 5, 6, 9, 10, 11, 16] else [0, 2, 3, 4, 5, 6, 10, 15, 27] else bif Nat.ble f 15 then bif Nat.ble f 13 then bif Nat.ble f 12 then bif Nat.ble f 11 then [0, 1, 4] else [0, 1, 4, 5, 6, 12] else [0, 1, 4, 5, 6, 7, 8, 9, 14, 24] else bif Nat.ble f 14 then [0, 1, 2] else [0, 1, 4, 5, 9, 17] else bif Nat.ble f 18 then bif Nat.ble f 17 then bif Nat.ble f 16 then [0, 1, 4, 5, 8] else [0, 1, 2, 5, 6, 7, 10, 11, 13] else [0, 2, 8] else bif Nat.ble f 19 then [0, 2, 3, 5, 8, 11, 12, 13, 14, 15, 25, 28] else [0, 2, 4] else bif Nat.ble f 31 then bif Nat.ble f 26 then bif Nat.ble f 23 then bif Nat.ble f 22 then bif Nat.ble f 21 then [0, 1, 4, 5, 7, 8, 9, 16] else [0, 2, 4, 5, 7, 8, 9, 10, 11, 17, 20, 21, 22, 23, 32] else [0, 1, 4, 5, 6, 7, 8, 9, 10, 12, 13, 14, 19] else bif Nat.ble f 25 then bif Nat.ble f 24 then [0, 1, 4] else [0, 1, 2, 3, 6] else [0, 1, 3, 4, 5, 6, 10, 11, 14] else bif Nat.ble f 29 then bif Nat.ble f 28 then bif Nat.ble f 27 then [0, 1, 3, 4] else [0, 1, 4, 5, 10, 12, 13, 14, 24] else [0, 2] else bif Nat.ble f 30 then [0, 1, 2, 3, 4] else [0, 1, 2, 3, 4] else bif Nat.ble f 36 then bif Nat.ble f 34 then bif Nat.ble f 33 then bif Nat.ble f 32 then [0, 2, 3] else [0, 2, 3, 4, 5, 6, 7, 8, 9] else [0, 1, 2, 3, 6] else bif Nat.ble f 35 then [0, 1, 4, 5, 10, 12, 13, 14, 24] else [0, 1, 4, 5, 6, 7, 12, 19, 29] else bif Nat.ble f 39 then bif Nat.ble f 38 then bif Nat.ble f 37 then [0, 1, 3] else [0, 1, 4, 5, 6, 11] else [0, 1, 3, 4, 5, 6, 7, 8, 9, 10, 15, 20, 26, 27, 28, 29] else bif Nat.ble f 40 then [0, 1, 2] else [0, 1, 2, 3, 4, 8, 20, 28, 37] else bif Nat.ble f 62 then bif Nat.ble f 52 then bif Nat.ble f 47 then bif Nat.ble f 44 then bif Nat.ble f 43 then bif Nat.ble f 42 then [0, 1, 4, 5, 7, 8, 9, 16] else [0, 1, 4, 5, 7, 11, 16, 17, 18, 19, 20, 26] else [0, 1, 4, 5, 6, 7, 8, 9, 13, 14, 15, 16] else bif Nat.ble f 46 then bif Nat.ble f 45 then [0, 1, 4, 5, 9, 16] else [0, 1, 4] else [0, 2, 4] else bif Nat.ble f 50 then bif Nat.ble f 49 then bif Nat.ble f 48 then [0, 1, 2, 6, 15] else [0, 1, 2, 3, 5] else [0, 1, 2, 3, 4, 8] else bif Nat.ble f 51 then [0, 2, 8] else [0, 1, 4] else bif Nat.ble f 57 then bif Nat.ble f 55 then bif Nat.ble f 54 then bif Nat.ble f 53 then [0, 1, 2, 6, 7, 11, 17] else [0, 2, 3, 5, 7, 8] else [0, 2, 4, 5, 8, 9, 10, 11, 12, 21] else bif Nat.ble f 56 then [0, 1, 4, 5, 16] else [0, 1, 4] else bif Nat.ble f 60 then bif Nat.ble f 59 then bif Nat.ble f 58 then [0, 1, 4, 12, 15] else [0, 1, 2, 3, 6] else [0, 1, 2, 5] else bif Nat.ble f 61 then [0, 2] else [0, 1, 2, 4, 5, 7, 8, 9, 10, 11, 25] else bif Nat.ble f 73 then bif Nat.ble f 68 then bif Nat.ble f 65 then bif Nat.ble f 64 then bif Nat.ble f 63 then [] else [] else [] else bif Nat.ble f 67 then bif Nat.ble f 66 then [] else [] else [] else bif Nat.ble f 71 then bif Nat.ble f 70 then bif Nat.ble f 69 then [] else [] else [] else bif Nat.ble f 72 then [] else [] else bif Nat.ble f 78 then bif Nat.ble f 76 then bif Nat.ble f 75 then bif Nat.ble f 74 then [] else [] else [] else bif Nat.ble f 77 then [] else [] else bif Nat.ble f 81 then bif Nat.ble f 80 then bif Nat.ble f 79 then [] else [0, 1, 2, 4] else [0, 1, 4] else bif Nat.ble f 82 then [0, 1, 4] else []

def goodT (f : Nat) : Bool := Nat.ble 3 f && Nat.ble f 82

noncomputable def cx : Cx Tryd.prog where
  good := goodT
  keep := keepT
  ext _ _ _ := none

theorem okAll : (List.range 63).all (fun f => !(Nat.ble 3 f) || okFn Tryd.prog f) = true := by kernel_rfl
theorem okFn_low {f : Nat} (h3 : 3 ≤ f) (h : f ≤ 62) : okFn Tryd.prog f = true := by
  have := (List.all_eq_true.1 okAll) f (List.mem_range.2 (by omega))
  have h1 : Nat.ble 3 f = true := Nat.ble_eq_true_of_le h3
  simpa [h1] using this

theorem goodAll : (List.range 83).all (fun f => !goodT f || fnOrd Tryd.prog f) = true := by kernel_rfl

theorem cx_ok : cx.Ok where
  mixed := by kernel_rfl
  ord f h := by
    have hlt : f < 83 := by
      have h1 : Nat.ble f 82 = true := by
        simp only [cx, goodT, Bool.and_eq_true] at h
        exact h.2
      exact Nat.lt_succ_of_le (Nat.le_of_ble_eq_true h1)
    have := (List.all_eq_true.1 goodAll) f (List.mem_range.2 hlt)
    have hg : goodT f = true := h
    rw [hg] at this
    simpa using this
  ext f args H v H' h := by cases h
theorem mixed : Tryd.prog.follows .mixedOrders = true := by kernel_rfl
end Go.Proofs.YtengokpphglodaaDoor

/- What the steps ask of the types of this program. -/
namespace Go.Proofs.YtengokpphglodaaDoor
open Go Go.Proofs.YtengokpphglodaaDoor.AX
@[simp] theorem ld3 (H : AH) (r off ver : Nat) : loadV Tryd.prog 3 H (.ptr r off ver) = ld H r off ver := ld_sc (by kernel_rfl) ..
theorem sc3 : scal Tryd.prog 3 = true := by kernel_rfl
theorem zt3 : zeroT Tryd.prog 3 = some [.int .i64 0] := by kernel_rfl
@[simp] theorem ld4 (H : AH) (r off ver : Nat) : loadV Tryd.prog 4 H (.ptr r off ver) = ld H r off ver := ld_sc (by kernel_rfl) ..
theorem sc4 : scal Tryd.prog 4 = true := by kernel_rfl
@[simp] theorem ld26 (H : AH) (r off ver : Nat) : loadV Tryd.prog 26 H (.ptr r off ver) = ld H r off ver := ld_sc (by kernel_rfl) ..
theorem sc26 : scal Tryd.prog 26 = true := by kernel_rfl
theorem slz26 : slSz Tryd.prog 26 = some 1 := by kernel_rfl
@[simp] theorem len26 (r : Option Nat) (off len ver sz : Nat) (full : Bool) : aLen Tryd.prog 26 (.slice r off len ver sz full) = some (.int .i64 len) := len_sl slz26 ..
@[simp] theorem lenp26 (r off len ver sz : Nat) : aLen Tryd.prog 26 (.part r off len ver sz) = some (.int .i64 len) := len_part slz26 ..
@[simp] theorem ixa26 (r off len ver : Nat) (full : Bool) (k : IntKind) (i : Int) : aIndexAddr Tryd.prog 26 (.slice (some r) off len ver 1 full) (.int k i) = if 0 ≤ i ∧ i < len then some (.ptr r (off + i.toNat * 1) ver) else none := ixa_sl slz26 ..
@[simp] theorem ixap26 (r off len ver : Nat) (k : IntKind) (i : Int) : aIndexAddr Tryd.prog 26 (.part r off len ver 1) (.int k i) = if 0 ≤ i ∧ i < len then some (.ptr r (off + i.toNat * 1) ver) else none := ixa_part slz26 ..
theorem el26 : elT Tryd.prog 26 = true := by kernel_rfl
@[simp] theorem row26 (H : AH) (b : Int) : rowV Tryd.prog 26 1 [(0, .int .i64 b)] H = some (some (.slice (some H.length) 0 1 0 1 false), H ++ [.row [.int .i64 b] 0 1 false]) := row1 el26 rfl rfl
theorem zt26 : zeroT Tryd.prog 26 = some [.slice none 0 0 0 1 false] := by kernel_rfl
@[simp] theorem ld36 (H : AH) (r off ver : Nat) : loadV Tryd.prog 36 H (.ptr r off ver) = ld H r off ver := ld_sc (by kernel_rfl) ..
theorem sc36 : scal Tryd.prog 36 = true := by kernel_rfl
theorem slz36 : slSz Tryd.prog 36 = some 2 := by kernel_rfl
@[simp] theorem len36 (r : Option Nat) (off len ver sz : Nat) (full : Bool) : aLen Tryd.prog 36 (.slice r off len ver sz full) = some (.int .i64 len) := len_sl slz36 ..
@[simp] theorem lenp36 (r off len ver sz : Nat) : aLen Tryd.prog 36 (.part r off len ver sz) = some (.int .i64 len) := len_part slz36 ..
@[simp] theorem ixa36 (r off len ver : Nat) (full : Bool) (k : IntKind) (i : Int) : aIndexAddr Tryd.prog 36 (.slice (some r) off len ver 2 full) (.int k i) = if 0 ≤ i ∧ i < len then some (.ptr r (off + i.toNat * 2) ver) else none := ixa_sl slz36 ..
@[simp] theorem ixap36 (r off len ver : Nat) (k : IntKind) (i : Int) : aIndexAddr Tryd.prog 36 (.part r off len ver 2) (.int k i) = if 0 ≤ i ∧ i < len then some (.ptr r (off + i.toNat * 2) ver) else none := ixa_part slz36 ..
theorem zt36 : zeroT Tryd.prog 36 = some [.slice none 0 0 0 1 false] := by kernel_rfl
@[simp] theorem ld52 (H : AH) (r off ver : Nat) : loadV Tryd.prog 52 H (.ptr r off ver) = ld H r off ver := ld_sc (by kernel_rfl) ..
theorem sc52 : scal Tryd.prog 52 = true := by kernel_rfl
theorem ar54 : arSz Tryd.prog 54 = some (7, 1) := by kernel_rfl
@[simp] theorem ixa54 (r off ver : Nat) (k : IntKind) (i : Int) : aIndexAddr Tryd.prog 54 (.ptr r off ver) (.int k i) = if 0 ≤ i ∧ i < (7 : Nat) then some (.ptr r (off + i.toNat * 1) ver) else none := ixa_ar ar54 ..
theorem ag54 : aggSz Tryd.prog 54 = some 7 := by kernel_rfl
@[simp] theorem ld54 (H : AH) (r off ver : Nat) : loadV Tryd.prog 54 H (.ptr r off ver) = (ldn H r ver 7 off).map .agg := load_agg ag54 ..
theorem zt54 : zeroT Tryd.prog 54 = some [.int .i64 0, .int .i64 0, .int .i64 0, .int .i64 0, .int .i64 0, .int .i64 0, .int .i64 0] := by kernel_rfl
theorem ag56 : aggSz Tryd.prog 56 = some 14 := by kernel_rfl
@[simp] theorem ld56 (H : AH) (r off ver : Nat) : loadV Tryd.prog 56 H (.ptr r off ver) = (ldn H r ver 14 off).map .agg := load_agg ag56 ..
@[simp] theorem fa56_0 (r off ver : Nat) : aFieldAddr Tryd.prog 56 (.ptr r off ver) 0 = some (.ptr r (off + 0) ver) := fld_ptr (by kernel_rfl) ..
@[simp] theorem fa56_1 (r off ver : Nat) : aFieldAddr Tryd.prog 56 (.ptr r off ver) 1 = some (.ptr r (off + 7) ver) := fld_ptr (by kernel_rfl) ..
theorem zt56 : zeroT Tryd.prog 56 = some [.int .i64 0, .int .i64 0, .int .i64 0, .int .i64 0, .int .i64 0, .int .i64 0, .int .i64 0, .int .i64 0, .int .i64 0, .int .i64 0, .int .i64 0, .int .i64 0, .int .i64 0, .int .i64 0] := by kernel_rfl
theorem ar65 : arSz Tryd.prog 65 = some (7, 1) := by kernel_rfl
@[simp] theorem ixa65 (r off ver : Nat) (k : IntKind) (i : Int) : aIndexAddr Tryd.prog 65 (.ptr r off ver) (.int k i) = if 0 ≤ i ∧ i < (7 : Nat) then some (.ptr r (off + i.toNat * 1) ver) else none := ixa_ar ar65 ..
theorem ag65 : aggSz Tryd.prog 65 = some 7 := by kernel_rfl
@[simp] theorem ld65 (H : AH) (r off ver : Nat) : loadV Tryd.prog 65 H (.ptr r off ver) = (ldn H r ver 7 off).map .agg := load_agg ag65 ..
theorem zt65 : zeroT Tryd.prog 65 = some [.bool false, .bool false, .bool false, .bool false, .bool false, .bool false, .bool false] := by kernel_rfl
@[simp] theorem ld66 (H : AH) (r off ver : Nat) : loadV Tryd.prog 66 H (.ptr r off ver) = ld H r off ver := ld_sc (by kernel_rfl) ..
theorem sc66 : scal Tryd.prog 66 = true := by kernel_rfl
theorem slz66 : slSz Tryd.prog 66 = some 1 := by kernel_rfl
@[simp] theorem len66 (r : Option Nat) (off len ver sz : Nat) (full : Bool) : aLen Tryd.prog 66 (.slice r off len ver sz full) = some (.int .i64 len) := len_sl slz66 ..
@[simp] theorem lenp66 (r off len ver sz : Nat) : aLen Tryd.prog 66 (.part r off len ver sz) = some (.int .i64 len) := len_part slz66 ..
@[simp] theorem ixa66 (r off len ver : Nat) (full : Bool) (k : IntKind) (i : Int) : aIndexAddr Tryd.prog 66 (.slice (some r) off len ver 1 full) (.int k i) = if 0 ≤ i ∧ i < len then some (.ptr r (off + i.toNat * 1) ver) else none := ixa_sl slz66 ..
@[simp] theorem ixap66 (r off len ver : Nat) (k : IntKind) (i : Int) : aIndexAddr Tryd.prog 66 (.part r off len ver 1) (.int k i) = if 0 ≤ i ∧ i < len then some (.ptr r (off + i.toNat * 1) ver) else none := ixa_part slz66 ..
theorem el66 : elT Tryd.prog 66 = true := by kernel_rfl
theorem ar67 : arSz Tryd.prog 67 = some (2, 1) := by kernel_rfl
@[simp] theorem ixa67 (r off ver : Nat) (k : IntKind) (i : Int) : aIndexAddr Tryd.prog 67 (.ptr r off ver) (.int k i) = if 0 ≤ i ∧ i < (2 : Nat) then some (.ptr r (off + i.toNat * 1) ver) else none := ixa_ar ar67 ..
theorem ag67 : aggSz Tryd.prog 67 = some 2 := by kernel_rfl
@[simp] theorem ld67 (H : AH) (r off ver : Nat) : loadV Tryd.prog 67 H (.ptr r off ver) = (ldn H r ver 2 off).map .agg := load_agg ag67 ..
theorem zt67 : zeroT Tryd.prog 67 = some [.int .i64 0, .int .i64 0] := by kernel_rfl
@[simp] theorem ld70 (H : AH) (r off ver : Nat) : loadV Tryd.prog 70 H (.ptr r off ver) = ld H r off ver := ld_sc (by kernel_rfl) ..
theorem sc70 : scal Tryd.prog 70 = true := by kernel_rfl
theorem ag74 : aggSz Tryd.prog 74 = some 2 := by kernel_rfl
@[simp] theorem ld74 (H : AH) (r off ver : Nat) : loadV Tryd.prog 74 H (.ptr r off ver) = (ldn H r ver 2 off).map .agg := load_agg ag74 ..
@[simp] theorem fa74_0 (r off ver : Nat) : aFieldAddr Tryd.prog 74 (.ptr r off ver) 0 = some (.ptr r (off + 0) ver) := fld_ptr (by kernel_rfl) ..
@[simp] theorem fa74_1 (r off ver : Nat) : aFieldAddr Tryd.prog 74 (.ptr r off ver) 1 = some (.ptr r (off + 1) ver) := fld_ptr (by kernel_rfl) ..
@[simp] theorem built74 (x0 x1 : Int) : aBuilt Tryd.prog 74 [(0, .int .i64 x0), (1, .int .i64 x1)] = some [.int .i64 x0, .int .i64 x1] := by kernel_rfl
theorem zt74 : zeroT Tryd.prog 74 = some [.int .i64 0, .int .i64 0] := by kernel_rfl
@[simp] theorem ld75 (H : AH) (r off ver : Nat) : loadV Tryd.prog 75 H (.ptr r off ver) = ld H r off ver := ld_sc (by kernel_rfl) ..
theorem sc75 : scal Tryd.prog 75 = true := by kernel_rfl
theorem slz75 : slSz Tryd.prog 75 = some 2 := by kernel_rfl
@[simp] theorem len75 (r : Option Nat) (off len ver sz : Nat) (full : Bool) : aLen Tryd.prog 75 (.slice r off len ver sz full) = some (.int .i64 len) := len_sl slz75 ..
@[simp] theorem lenp75 (r off len ver sz : Nat) : aLen Tryd.prog 75 (.part r off len ver sz) = some (.int .i64 len) := len_part slz75 ..
@[simp] theorem ixa75 (r off len ver : Nat) (full : Bool) (k : IntKind) (i : Int) : aIndexAddr Tryd.prog 75 (.slice (some r) off len ver 2 full) (.int k i) = if 0 ≤ i ∧ i < len then some (.ptr r (off + i.toNat * 2) ver) else none := ixa_sl slz75 ..
@[simp] theorem ixap75 (r off len ver : Nat) (k : IntKind) (i : Int) : aIndexAddr Tryd.prog 75 (.part r off len ver 2) (.int k i) = if 0 ≤ i ∧ i < len then some (.ptr r (off + i.toNat * 2) ver) else none := ixa_part slz75 ..
theorem zt75 : zeroT Tryd.prog 75 = some [.slice none 0 0 0 1 false] := by kernel_rfl
@[simp] theorem ld76 (H : AH) (r off ver : Nat) : loadV Tryd.prog 76 H (.ptr r off ver) = ld H r off ver := ld_sc (by kernel_rfl) ..
theorem sc76 : scal Tryd.prog 76 = true := by kernel_rfl
theorem ag78 : aggSz Tryd.prog 78 = some 2 := by kernel_rfl
@[simp] theorem ld78 (H : AH) (r off ver : Nat) : loadV Tryd.prog 78 H (.ptr r off ver) = (ldn H r ver 2 off).map .agg := load_agg ag78 ..
@[simp] theorem fa78_0 (r off ver : Nat) : aFieldAddr Tryd.prog 78 (.ptr r off ver) 0 = some (.ptr r (off + 0) ver) := fld_ptr (by kernel_rfl) ..
@[simp] theorem fa78_1 (r off ver : Nat) : aFieldAddr Tryd.prog 78 (.ptr r off ver) 1 = some (.ptr r (off + 1) ver) := fld_ptr (by kernel_rfl) ..
theorem zt78 : zeroT Tryd.prog 78 = some [.slice none 0 0 0 1 false, .nilfunc] := by kernel_rfl
@[simp] theorem ld86 (H : AH) (r off ver : Nat) : loadV Tryd.prog 86 H (.ptr r off ver) = ld H r off ver := ld_sc (by kernel_rfl) ..
theorem sc86 : scal Tryd.prog 86 = true := by kernel_rfl
@[simp] theorem ld88 (H : AH) (r off ver : Nat) : loadV Tryd.prog 88 H (.ptr r off ver) = ld H r off ver := ld_sc (by kernel_rfl) ..
theorem sc88 : scal Tryd.prog 88 = true := by kernel_rfl
theorem ag94 : aggSz Tryd.prog 94 = some 2 := by kernel_rfl
@[simp] theorem ld94 (H : AH) (r off ver : Nat) : loadV Tryd.prog 94 H (.ptr r off ver) = (ldn H r ver 2 off).map .agg := load_agg ag94 ..
@[simp] theorem fa94_0 (r off ver : Nat) : aFieldAddr Tryd.prog 94 (.ptr r off ver) 0 = some (.ptr r (off + 0) ver) := fld_ptr (by kernel_rfl) ..
@[simp] theorem fa94_1 (r off ver : Nat) : aFieldAddr Tryd.prog 94 (.ptr r off ver) 1 = some (.ptr r (off + 1) ver) := fld_ptr (by kernel_rfl) ..
@[simp] theorem built94 (x0 x1 : Int) : aBuilt Tryd.prog 94 [(0, .int .i64 x0), (1, .int .i64 x1)] = some [.int .i64 x0, .int .i64 x1] := by kernel_rfl
theorem zt94 : zeroT Tryd.prog 94 = some [.int .i64 0, .int .i64 0] := by kernel_rfl
theorem ag97 : aggSz Tryd.prog 97 = some 1 := by kernel_rfl
@[simp] theorem ld97 (H : AH) (r off ver : Nat) : loadV Tryd.prog 97 H (.ptr r off ver) = (ldn H r ver 1 off).map .agg := load_agg ag97 ..
@[simp] theorem fa97_0 (r off ver : Nat) : aFieldAddr Tryd.prog 97 (.ptr r off ver) 0 = some (.ptr r (off + 0) ver) := fld_ptr (by kernel_rfl) ..
@[simp] theorem built97 (x0 : Int) : aBuilt Tryd.prog 97 [(0, .int .i64 x0)] = some [.int .i64 x0] := by kernel_rfl
theorem zt97 : zeroT Tryd.prog 97 = some [.int .i64 0] := by kernel_rfl
@[simp] theorem cv5_3 (k : IntKind) (n : Int) : aConv Tryd.prog 5 3 (.int k n) = some (.int .i64 (IntKind.i64.wrap n)) := cv_int (by kernel_rfl) (by kernel_rfl) n
@[simp] theorem cv22_3 (k : IntKind) (n : Int) : aConv Tryd.prog 22 3 (.int k n) = some (.int .i64 (IntKind.i64.wrap n)) := cv_int (by kernel_rfl) (by kernel_rfl) n
end Go.Proofs.YtengokpphglodaaDoor

/- What the steps ask of heaps and spans. -/
namespace Go.Proofs.YtengokpphglodaaDoor
open Go Go.Proofs.YtengokpphglodaaDoor.AX
theorem pr121 : pairT Tryd.prog 94 = true := by kernel_rfl
/-- Two cells, written and read. -/
def two (a b : Int) : List AV := [.int .i64 a, .int .i64 b]
theorem put121 (H : AH) (a b : Int) : storeV Tryd.prog 94 (H ++ [.row [.int .i64 0, .int .i64 0] 0 0 false]) (.ptr H.length 0 0) (.agg [.int .i64 a, .int .i64 b]) = some (none, H ++ [.row (two a b) 0 0 false]) := by
  rw [store_agg ag94 (c := [.int .i64 0, .int .i64 0]) (s := 0) (by simp) (by decide) rfl (by simp) rfl (by simp [AV.one])]
  simp [two]
theorem put81 (H : AH) (a b : Int) : storeV Tryd.prog 74 (H ++ [.row [.int .i64 0, .int .i64 0] 0 0 false]) (.ptr H.length 0 0) (.agg [.int .i64 a, .int .i64 b]) = some (none, H ++ [.row (two a b) 0 0 false]) := by
  rw [store_agg ag74 (c := [.int .i64 0, .int .i64 0]) (s := 0) (by simp) (by decide) rfl (by simp) rfl (by simp [AV.one])]
  simp [two]
theorem set121 {H : AH} {w : Nat} {a b c d : Int} {s : Nat} (hw : H[w]? = some (.row (two a b) 0 s false)) : storeV Tryd.prog 94 H (.ptr w 0 0) (.agg [.int .i64 c, .int .i64 d]) = some (none, H.set w (.row (two c d) 0 0 false)) :=
  store_agg ag94 hw (by decide) rfl (by simp [two]) rfl (by simp [AV.one])
theorem ldn_two {H : AH} {w s : Nat} {a b : Int} {ro : Bool} (hw : H[w]? = some (.row (two a b) 0 s ro)) : ldn H w 0 2 0 = some [.int .i64 a, .int .i64 b] := by
  rw [ldn_row hw]; rfl
theorem ld_two0 {H : AH} {w s : Nat} {a b : Int} {ro : Bool} (hw : H[w]? = some (.row (two a b) 0 s ro)) : ld H w 0 0 = some (.int .i64 a) := by
  rw [ld_row hw]; rfl
theorem ld_two1 {H : AH} {w s : Nat} {a b : Int} {ro : Bool} (hw : H[w]? = some (.row (two a b) 0 s ro)) : ld H w 1 0 = some (.int .i64 b) := by
  rw [ld_row hw]; rfl
/-- Heaps. -/
def cells (l : List (Int × Int)) : List (List AV) := l.map fun h => two h.1 h.2
@[simp] theorem cells_length (l : List (Int × Int)) : (cells l).length = l.length := by simp [cells]
def Hs (H : AH) (v : AV) (l : List (Int × Int)) : Prop := Rs 2 H v (cells l)
theorem Hs.ext {H H1 : AH} {v : AV} {l : List (Int × Int)} (h : Hs H v l) (hE : Ext H H1) : Hs H1 v l := Rs.ext h hE
theorem Hs.read {H : AH} {v : AV} {l : List (Int × Int)} (h : Hs H v l) : ∃ r off ver sz full, v = .slice r off l.length ver sz full ∧ ∀ i (hi : i < l.length), ∃ r', r = some r' ∧ sz = 2 ∧ ldn H r' ver 2 (off + i * 2) = some [.int .i64 l[i].1, .int .i64 l[i].2] := by
  obtain ⟨r, off, ver, sz, full, rfl, hl⟩ := h
  refine ⟨r, off, ver, sz, full, by simp, fun i hi => ?_⟩
  obtain ⟨r', h1, h2, h3⟩ := hl i (by simpa using hi)
  exact ⟨r', h1, h2, by simpa [cells, two] using h3⟩
end Go.Proofs.YtengokpphglodaaDoor

/- Spans: how many heaps lie in them, the next one, the first crowded one, and whether there is a plan. -/
namespace Go.Proofs.YtengokpphglodaaDoor
open Go Go.Proofs.YtengokpphglodaaDoor.AX

def inS (a b : Int) (h : Int × Int) : Bool := decide (a ≤ h.1) && decide (h.2 ≤ b)
def holdsS (a b : Int) (l : List (Int × Int)) : Nat := l.countP (inS a b)
theorem countP_take_succ {α : Type} (p : α → Bool) (l : List α) {i : Nat} (hi : i < l.length) : (l.take (i + 1)).countP p = (l.take i).countP p + if p l[i] = true then 1 else 0 := by
  rw [List.take_succ_eq_append_getElem hi, List.countP_append]
  simp [List.countP_cons]
set_option maxRecDepth 100000 in
theorem holds_ac (a b : Int) (v : AV) (l : List (Int × Int)) (H : AH) (Q : AV → AH → Prop) (hl : l.length ≤ 1000000) (hv : Hs H v l) (h : ∀ H', Ext H H' → Q (.int .i64 (holdsS a b l : Nat)) H') :
    AC Tryd.prog 62 [.agg [.int .i64 a, .int .i64 b], v] H Q := by
  obtain ⟨r, off, ver, sz, full, rfl, hld⟩ := hv.read
  refine L_body 30 Tryd.func62 rfl rfl ?_
  refine L_reg [1, 2] (fun K hK => ?_)
  simp [AV.isU, acells]
  apply hK; clear hK K
  have hbox : (H ++ [AObj.row (two a b) 0 0 false])[H.length]? = some (.row (two a b) 0 0 false) := by simp
  have hE0 : Ext H (H ++ [AObj.row (two a b) 0 0 false]) := .push _ _
  simp only [two] at hbox hE0
  generalize H ++ [AObj.row [AV.int IntKind.i64 a, AV.int IntKind.i64 b] 0 0 false] = H1 at hbox hE0 ⊢
  generalize H.length = w at hbox ⊢
  refine L_reg [1, 2, 5] (fun K hK => ?_)
  simp
  apply hK; clear hK K
  refine L_reg [2, 5, 8, 9, 10] (fun K hK => ?_)
  simp
  apply hK; clear hK K
  refine L_block (L_loopV [5, 10] (fun k vs H' => ∃ i : Nat, k = l.length - i ∧ i ≤ l.length ∧ vs = [.int .i64 ((l.take i).countP (inS a b) : Nat), .int .i64 i] ∧ Ext H1 H') _ [.int .i64 (0 : Nat), .int .i64 (0 : Nat)] rfl ⟨0, rfl, by omega, by simp, .refl _⟩ ?_)
  rintro k _ H2 ⟨i, rfl, hi, rfl, hE⟩
  have hcl : (l.take i).countP (inS a b) ≤ i := Nat.le_trans List.countP_le_length (by simp; omega)
  refine L_reg [2, 5, 8, 9, 10, 11] (fun K hK => ?_)
  simp
  apply hK; clear hK K
  refine L_dec (i < l.length) (by simp) (fun hlt => ?_) (fun hge => L_exit ?_)
  · obtain ⟨r', rfl, rfl, hrd⟩ := hld i hlt
    have hrd := ldn_ext (hE0.trans hE) hrd
    have hsucc := countP_take_succ (inS a b) l hlt
    generalize l[i] = x at hrd hsucc
    obtain ⟨c, d⟩ := x
    refine L_block ?_
    refine L_reg [2, 5, 7, 8, 9, 10] (fun K hK => ?_)
    simp [hlt, hrd, alloc_z zt74, put81]
    apply hK; clear hK K
    have hbx : (H2 ++ [AObj.row (two c d) 0 0 false])[H2.length]? = some (.row (two c d) 0 0 false) := by simp
    have hE1 : Ext H2 (H2 ++ [AObj.row (two c d) 0 0 false]) := .push _ _
    generalize H2 ++ [AObj.row (two c d) 0 0 false] = H3 at hbx hE1 ⊢
    generalize H2.length = u at hbx ⊢
    have hw3 := hE1.row (hE.row hbox)
    have e1 := ld_two0 hw3
    have e2 := ld_two1 hw3
    have e3 := ld_two0 hbx
    have e4 := ld_two1 hbx
    have hE3 := hE.trans hE1
    by_cases hac : a ≤ c
    · refine L_reg [2, 5, 8, 9, 10, 25] (fun K hK => ?_)
      simp [e1, e2, e3, e4, pickV, hac]
      apply hK; clear hK K
      refine L_dec (d ≤ b) (by simp) (fun hdb => ?_) (fun hdb => ?_)
      · have hin : inS a b (c, d) = true := by simp [inS, hac, hdb]
        rw [if_pos hin] at hsucc
        refine L_reg [2, 5, 8, 9, 10] (fun K hK => ?_)
        simp [wrap_i64 (a := ((List.countP (inS a b) (List.take i l) : Nat) : Int) + 1) (by omega)]
        apply hK; clear hK K
        refine L_reg [2, 5, 8, 9, 10] (fun K hK => ?_)
        simp [wrap_i64 (a := (i : Int) + 1) (by omega)]
        apply hK; clear hK K
        exact ⟨l.length - (i + 1), [.int .i64 ((l.take (i + 1)).countP (inS a b) : Nat), .int .i64 (i + 1 : Nat)], by omega, by simp [hsucc], i + 1, rfl, by omega, rfl, hE3⟩
      · have hin : inS a b (c, d) = false := by simp [inS, hdb]
        rw [if_neg (by rw [hin]; decide)] at hsucc
        refine L_reg [2, 5, 8, 9, 10] (fun K hK => ?_)
        simp [wrap_i64 (a := (i : Int) + 1) (by omega)]
        apply hK; clear hK K
        exact ⟨l.length - (i + 1), [.int .i64 ((l.take (i + 1)).countP (inS a b) : Nat), .int .i64 (i + 1 : Nat)], by omega, by simp [hsucc], i + 1, rfl, by omega, rfl, hE3⟩
    · refine L_reg [2, 5, 8, 9, 10, 25] (fun K hK => ?_)
      simp [e1, e3, pickV, hac]
      apply hK; clear hK K
      refine L_false (by simp) ?_
      have hin : inS a b (c, d) = false := by simp [inS, hac]
      rw [if_neg (by rw [hin]; decide)] at hsucc
      refine L_reg [2, 5, 8, 9, 10] (fun K hK => ?_)
      simp [wrap_i64 (a := (i : Int) + 1) (by omega)]
      apply hK; clear hK K
      exact ⟨l.length - (i + 1), [.int .i64 ((l.take (i + 1)).countP (inS a b) : Nat), .int .i64 (i + 1 : Nat)], by omega, by simp [hsucc], i + 1, rfl, by omega, rfl, hE3⟩
  · have : i = l.length := by omega
    subst this
    refine L_reg [4] (fun K hK => ?_)
    simp
    apply hK; clear hK K
    exact L_ret ⟨.inr rfl, _, rfl, by simpa [holdsS] using h _ (hE0.trans hE)⟩
/-- The span that follows. -/
def nextS (a b : Int) : Int × Int := if b < 23 then (a, b + 1) else (a + 1, a + 1)
set_option maxRecDepth 100000 in
theorem next_acH (a b : Int) (H : AH) (Q : AV → AH → Prop) (ha : -1000 ≤ a ∧ a ≤ 1000) (hb : b ≤ 1000 ∧ -1000 ≤ b) (h : ∀ H', Ext H H' → Q (.agg [.int .i64 (nextS a b).1, .int .i64 (nextS a b).2]) H') : AC Tryd.prog 60 [.agg [.int .i64 a, .int .i64 b]] H Q := by
  obtain ⟨I, hI, hz⟩ := zeroT_some zt94
  refine L_body 19 Tryd.func60 rfl rfl ?_
  refine L_reg [1, 2] (fun K hK => ?_)
  simp [AV.isU, acells, hI, hz]
  apply hK; clear hK K
  have hE : Ext H (H ++ [AObj.row (two a b) 0 0 false, AObj.row (two 0 0) 0 0 false]) := .push _ _
  have h1 : (H ++ [AObj.row (two a b) 0 0 false, AObj.row (two 0 0) 0 0 false])[H.length]? = some (.row (two a b) 0 0 false) := by simp
  have h2 : (H ++ [AObj.row (two a b) 0 0 false, AObj.row (two 0 0) 0 0 false])[H.length + 1]? = some (.row (two 0 0) 0 0 false) := by simp
  simp only [two] at hE h1 h2
  generalize H ++ [AObj.row [AV.int IntKind.i64 a, AV.int IntKind.i64 b] 0 0 false, AObj.row [AV.int IntKind.i64 0, AV.int IntKind.i64 0] 0 0 false] = H1 at hE h1 h2 ⊢
  have e0 := ld_two0 h1
  have e1 := ld_two1 h1
  refine L_reg [1, 2, 5] (fun K hK => ?_)
  simp [e1]
  apply hK; clear hK K
  refine L_dec (b < 23) (by simp) (fun hlt => ?_) (fun hge => ?_)
  · rw [nextS, if_pos hlt] at h
    have hs := set121 (c := a) (d := b + 1) h2
    refine L_reg [2] (fun K hK => ?_)
    simp [e0, e1, wrap_i64 (a := b + 1) (by omega), hs]
    apply hK; clear hK K
    refine L_ret ⟨.inr rfl, _, res_cell rfl ?_, h _ (hE.set _ (by omega))⟩
    simp [ldn_two (get_set h2)]
  · rw [nextS, if_neg hge] at h
    have hs := set121 (c := a + 1) (d := a + 1) h2
    refine L_reg [2] (fun K hK => ?_)
    simp [e0, wrap_i64 (a := a + 1) (by omega), hs]
    apply hK; clear hK K
    refine L_ret ⟨.inr rfl, _, res_cell rfl ?_, h _ (hE.set _ (by omega))⟩
    simp [ldn_two (get_set h2)]
theorem holds_q (a b : Int) (v : AV) (l : List (Int × Int)) (H : AH) (hl : l.length ≤ 1000000) (hv : Hs H v l) (Q : AV → AH → Prop) (h : Q (.int .i64 (holdsS a b l : Nat)) H) : AC Tryd.prog 62 [.agg [.int .i64 a, .int .i64 b], v] H Q :=
  AC.quiet (belB_int _ _ _ _) (fun Q h => holds_ac a b v l H Q hl hv h) Q h
theorem next_q (a b : Int) (H : AH) (ha : -1000 ≤ a ∧ a ≤ 1000) (hb : b ≤ 1000 ∧ -1000 ≤ b) (Q : AV → AH → Prop) (h : Q (.agg [.int .i64 (nextS a b).1, .int .i64 (nextS a b).2]) H) : AC Tryd.prog 60 [.agg [.int .i64 a, .int .i64 b]] H Q :=
  AC.quiet (belB_two _ _ _ _ _ _) (fun Q h => next_acH a b H Q ha hb h) Q h
def crowdedS (a b k : Int) (l : List (Int × Int)) : Bool := decide ((b - a + 1) * k < (holdsS a b l : Nat))
set_option maxRecDepth 100000 in
theorem crowded_ac (a b k : Int) (v : AV) (l : List (Int × Int)) (H : AH) (Q : AV → AH → Prop) (hl : l.length ≤ 1000000) (hv : Hs H v l) (ha : 0 ≤ a ∧ a ≤ 100) (hb : 0 ≤ b ∧ b ≤ 100) (hk : 0 ≤ k ∧ k ≤ 1000)
    (h : ∀ H', Ext H H' → Q (.bool (crowdedS a b k l)) H') : AC Tryd.prog 59 [.agg [.int .i64 a, .int .i64 b], v, .int .i64 k] H Q := by
  refine L_body 19 Tryd.func59 rfl rfl ?_
  refine L_reg [1, 2, 3] (fun K hK => ?_)
  simp [AV.isU, acells]
  apply hK; clear hK K
  have hE : Ext H (H ++ [AObj.row (two a b) 0 0 false]) := .push _ _
  have h1 : (H ++ [AObj.row (two a b) 0 0 false])[H.length]? = some (.row (two a b) 0 0 false) := by simp
  simp only [two] at hE h1
  generalize H ++ [AObj.row [AV.int IntKind.i64 a, AV.int IntKind.i64 b] 0 0 false] = H1 at hE h1 ⊢
  generalize H.length = w at h1 ⊢
  have e0 := ld_two0 h1
  have e1 := ld_two1 h1
  have e2 := ldn_two h1
  have hm1 : (b - a + 1) * k ≤ 101 * 1000 := Int.le_trans (Int.mul_le_mul_of_nonneg_right (show b - a + 1 ≤ 101 by omega) hk.1) (Int.mul_le_mul_of_nonneg_left hk.2 (by decide))
  have hm2 : -100 * 1000 ≤ (b - a + 1) * k := Int.le_trans (by
    have := Int.mul_le_mul_of_nonneg_left hk.2 (show (0 : Int) ≤ 100 by decide)
    omega) (Int.mul_le_mul_of_nonneg_right (show -100 ≤ b - a + 1 by omega) hk.1)
  refine L_regY mixed [6] (by kernel_rfl) (fun K hK => ?_)
  simp [e2, okFn_low]
  refine exX_mk (fun Q hQ => holds_q a b v l H1 hl (hv.ext hE) Q hQ) (.refl _) ?_
  simp [e0, e1, wrap_i64 (a := b - a) (by omega), wrap_i64 (a := b - a + 1) (by omega), wrap_i64 (a := (b - a + 1) * k) (by omega)]
  apply hK; clear hK K
  exact L_ret ⟨.inr rfl, _, rfl, by simpa [crowdedS] using h _ hE⟩
theorem crowded_q (a b k : Int) (v : AV) (l : List (Int × Int)) (H : AH) (hl : l.length ≤ 1000000) (hv : Hs H v l) (ha : 0 ≤ a ∧ a ≤ 100) (hb : 0 ≤ b ∧ b ≤ 100) (hk : 0 ≤ k ∧ k ≤ 1000) (Q : AV → AH → Prop) (h : Q (.bool (crowdedS a b k l)) H) :
    AC Tryd.prog 59 [.agg [.int .i64 a, .int .i64 b], v, .int .i64 k] H Q :=
  AC.quiet (belB_bool _ _ _) (fun Q h => crowded_ac a b k v l H Q hl hv ha hb hk h) Q h
/-- What the package's variable holds. -/
def gs : List (Nat × List AV) := [(0, [.int .i64 24, .int .i64 24])]
theorem gs_load {H : AH} (hg : HasG gs H) : loadV Tryd.prog 94 H (.gptr 0 0) = some (.agg [.int .i64 24, .int .i64 24]) := by
  have : gfind H 0 = some [.int .i64 24, .int .i64 24] := (hg (0, [.int .i64 24, .int .i64 24]) (by simp [gs])).1
  rw [load_gagg ag94, this]
  rfl
def fcS (k : Int) (l : List (Int × Int)) : Nat → Int → Int → Int × Int
  | 0, a, b => (a, b)
  | n + 1, a, b => if ((a == 24 && b == 24) || crowdedS a b k l) = true then (a, b) else fcS k l n (nextS a b).1 (nextS a b).2
def spanM (a b : Int) : Nat := ((24 - a) * 24 + (24 - b)).toNat
/-- A span within the day, or the one behind the last. -/
def okSpan (a b : Int) : Prop := (0 ≤ a ∧ a ≤ b ∧ b ≤ 23) ∨ (a = 24 ∧ b = 24)
theorem next_ok {a b : Int} (h : 0 ≤ a ∧ a ≤ b ∧ b ≤ 23) : okSpan (nextS a b).1 (nextS a b).2 ∧ spanM (nextS a b).1 (nextS a b).2 < spanM a b := by
  unfold nextS okSpan spanM
  split
  · exact ⟨.inl ⟨h.1, by omega, by omega⟩, by omega⟩
  · refine ⟨?_, by omega⟩
    by_cases h24 : a = 23
    · right; omega
    · left; omega
def firstS (k : Int) (l : List (Int × Int)) : Int × Int := fcS k l 601 0 0
set_option maxRecDepth 100000 in
theorem firstCrowded_ac (k : Int) (v : AV) (l : List (Int × Int)) (H : AH) (Q : AV → AH → Prop) (hl : l.length ≤ 1000000) (hv : Hs H v l) (hk : 0 ≤ k ∧ k ≤ 1000) (hg : HasG gs H)
    (h : ∀ H', Ext H H' → Q (.agg [.int .i64 (firstS k l).1, .int .i64 (firstS k l).2]) H') : AC Tryd.prog 56 [v, .int .i64 k] H Q := by
  obtain ⟨I, hI, hz⟩ := zeroT_some zt94
  refine L_body 20 Tryd.func56 rfl rfl ?_
  refine L_reg [0, 1, 4] (fun K hK => ?_)
  simp [hI, hz]
  apply hK; clear hK K
  have hE0 : Ext H (H ++ [AObj.row (two 0 0) 0 0 false]) := .push _ _
  have h0 : (H ++ [AObj.row (two 0 0) 0 0 false])[H.length]? = some (.row (two 0 0) 0 0 false) := by simp
  have hlt0 : H.length < (H ++ [AObj.row (two 0 0) 0 0 false]).length := by simp
  simp only [two] at hE0 h0 hlt0
  generalize H ++ [AObj.row [AV.int IntKind.i64 0, AV.int IntKind.i64 0] 0 0 false] = H1 at hE0 h0 hlt0 ⊢
  generalize hw0 : H.length = w0 at h0 hlt0 ⊢
  refine L_reg [0, 1, 4, 5] (fun K hK => ?_)
  simp [hI, hz, put121]
  apply hK; clear hK K
  have hE1 : Ext H1 (H1 ++ [AObj.row (two 0 0) 0 0 false]) := .push _ _
  have h1 : (H1 ++ [AObj.row (two 0 0) 0 0 false])[H1.length]? = some (.row (two 0 0) 0 0 false) := by simp
  generalize H1 ++ [AObj.row (two 0 0) 0 0 false] = H2 at hE1 h1 ⊢
  generalize hw1 : H1.length = w1 at h1 hlt0 ⊢
  have hE2 := hE0.trans hE1
  have h02 := hE1.row h0
  refine L_block (L_loopV [] (fun m vs H' => ∃ (a b : Int) (n : Nat), m = spanM a b ∧ okSpan a b ∧ spanM a b < n ∧ firstS k l = fcS k l n a b ∧ vs = [] ∧ Ext H H' ∧ H'[w0]? = some (.row (two 0 0) 0 0 false) ∧ H'[w1]? = some (.row (two a b) 0 0 false)) _ [] rfl
    ⟨0, 0, 601, rfl, .inl (by omega), by decide, rfl, rfl, hE2, h02, h1⟩ ?_)
  rintro m _ H3 ⟨a, b, n, rfl, hab, hn, hfc, rfl, hE, h03, h13⟩
  have hab' : 0 ≤ a ∧ a ≤ 24 ∧ 0 ≤ b ∧ b ≤ 24 := by rcases hab with h | h <;> omega
  have e1 := ldn_two h13
  have eg := gs_load (hg.ext hE)
  cases n with
  | zero => omega
  | succ n =>
  have hstep : firstS k l = if ((a == 24 && b == 24) || crowdedS a b k l) = true then (a, b) else fcS k l n (nextS a b).1 (nextS a b).2 := hfc
  by_cases hp : a = 24 ∧ b = 24
  · obtain ⟨rfl, rfl⟩ := hp
    refine L_reg [0, 1, 4, 5, 16] (fun K hK => ?_)
    simp [e1, eg, b_neP pr121, pickV]
    apply hK; clear hK K
    refine L_false (by simp) (L_exit ?_)
    simp at hstep
    have hst := set121 (c := 24) (d := 24) h03
    refine L_reg [4] (fun K hK => ?_)
    simp [e1, hst]
    apply hK; clear hK K
    refine L_ret ⟨.inr rfl, _, res_cell rfl ?_, h _ (hE.set _ (by omega))⟩
    rw [hstep]
    simp [ldn_two (get_set h03)]
  · have hne : (a == 24 && b == 24) = false := by
      rw [Bool.and_eq_false_iff]
      by_cases ha : a = 24
      · right; simp; omega
      · left; simp [ha]
    have hnn : (a == (24 : Int) && b == 24) = false := hne
    rw [hne, Bool.false_or] at hstep
    refine L_reg [0, 1, 4, 5, 16] (fun K hK => ?_)
    simp [e1, eg, b_neP pr121, hne, okFn_low]
    refine crowded_q a b k v l H3 hl (hv.ext hE) (by omega) (by omega) hk _ ?_
    simp [pickV]
    apply hK; clear hK K
    cases hc : crowdedS a b k l with
    | true =>
      rw [hc] at hstep
      refine L_false (by simp) (L_exit ?_)
      simp at hstep
      have hst := set121 (c := a) (d := b) h03
      refine L_reg [4] (fun K hK => ?_)
      simp [e1, hst]
      apply hK; clear hK K
      refine L_ret ⟨.inr rfl, _, res_cell rfl ?_, h _ (hE.set _ (by omega))⟩
      rw [hstep]
      simp [ldn_two (get_set h03)]
    | false =>
      rw [hc] at hstep
      simp only [Bool.false_eq_true, if_false] at hstep
      have hin : 0 ≤ a ∧ a ≤ b ∧ b ≤ 23 := by
        rcases hab with h | h
        · exact h
        · exact absurd h hp
      obtain ⟨g1, g2⟩ := next_ok hin
      refine L_true (by simp) (L_block ?_)
      have hst := set121 (c := (nextS a b).1) (d := (nextS a b).2) h13
      refine L_reg [0, 1, 4, 5] (fun K hK => ?_)
      simp [e1, okFn_low]
      refine next_q a b H3 (by omega) (by omega) _ ?_
      simp [hst]
      apply hK; clear hK K
      refine ⟨spanM (nextS a b).1 (nextS a b).2, [], g2, by simp, _, _, n, rfl, g1, by omega, hstep, rfl, hE.set _ (by omega), ?_, get_set h13⟩
      rw [List.getElem?_set_ne (by omega)]; exact h03
theorem firstCrowded_q (k : Int) (v : AV) (l : List (Int × Int)) (H : AH) (hl : l.length ≤ 1000000) (hv : Hs H v l) (hk : 0 ≤ k ∧ k ≤ 1000) (hg : HasG gs H) (Q : AV → AH → Prop) (h : Q (.agg [.int .i64 (firstS k l).1, .int .i64 (firstS k l).2]) H) :
    AC Tryd.prog 56 [v, .int .i64 k] H Q := AC.quiet (belB_two _ _ _ _ _ _) (fun Q h => firstCrowded_ac k v l H Q hl hv hk hg h) Q h
/-- Whether there is a plan, as the program asks it. -/
def possS (k : Int) (l : List (Int × Int)) : Bool := (firstS k l).1 == 24 && (firstS k l).2 == 24
theorem possible_ac (k : Int) (v : AV) (l : List (Int × Int)) (H : AH) (Q : AV → AH → Prop) (hl : l.length ≤ 1000000) (hv : Hs H v l) (hk : 0 ≤ k ∧ k ≤ 1000) (hg : HasG gs H) (h : Q (.bool (possS k l)) H) : AC Tryd.prog 46 [v, .int .i64 k] H Q := by
  refine L_body 10 Tryd.func46 rfl rfl ?_
  refine L_reg [0, 1] (fun K hK => ?_)
  simp
  apply hK; clear hK K
  have eg := gs_load hg
  refine L_regY mixed [4] (by kernel_rfl) (fun K hK => ?_)
  simp [okFn_low]
  refine exX_mk (fun Q hQ => firstCrowded_q k v l H hl hv hk hg Q hQ) (.refl _) ?_
  simp [eg, b_eqP pr121]
  apply hK; clear hK K
  exact L_ret ⟨.inr rfl, _, rfl, by simpa [possS] using h⟩
end Go.Proofs.YtengokpphglodaaDoor

/- Whether there is a plan: no span is crowded; a quick reckoning; the examples that each law ends with. -/
namespace Go.Proofs.YtengokpphglodaaDoor
open Go Go.Proofs.YtengokpphglodaaDoor.AX

theorem fcS_iff (k : Int) (l : List (Int × Int)) : ∀ (n : Nat) (a b : Int), okSpan a b → spanM a b < n →
    (fcS k l n a b = (24, 24) ↔ ∀ a' b' : Int, 0 ≤ a' → a' ≤ b' → b' ≤ 23 → (a < a' ∨ a = a' ∧ b ≤ b') → crowdedS a' b' k l = false)
  | 0, a, b, _, h => by omega
  | n + 1, a, b, hab, hn => by
    unfold fcS
    rcases hab with hin | ⟨rfl, rfl⟩
    · have hne : (a == 24 && b == 24) = false := by
        rw [Bool.and_eq_false_iff]; left; simp; omega
      rw [hne, Bool.false_or]
      obtain ⟨g1, g2⟩ := next_ok hin
      cases hc : crowdedS a b k l with
      | true =>
        rw [if_pos rfl]
        constructor
        · intro h; cases h; omega
        · intro h
          have := h a b hin.1 hin.2.1 hin.2.2 (.inr ⟨rfl, by omega⟩)
          rw [hc] at this; cases this
      | false =>
        rw [if_neg (by decide), fcS_iff k l n _ _ g1 (by omega)]
        constructor
        · intro h a' b' h1 h2 h3 h4
          by_cases he : a' = a ∧ b' = b
          · rw [he.1, he.2]; exact hc
          · refine h a' b' h1 h2 h3 ?_
            unfold nextS
            split
            · rcases h4 with h4 | h4
              · exact .inl h4
              · exact .inr ⟨h4.1, by simp only; omega⟩
            · simp only; omega
        · intro h a' b' h1 h2 h3 h4
          refine h a' b' h1 h2 h3 ?_
          unfold nextS at h4
          split at h4
          · simp only at h4; omega
          · simp only at h4; omega
    · simp
      intro a' b' h1 h2 h3 h4
      omega
theorem possS_iff (k : Int) (l : List (Int × Int)) : possS k l = true ↔ ∀ a b : Int, 0 ≤ a → a ≤ b → b ≤ 23 → crowdedS a b k l = false := by
  have h := fcS_iff k l 601 0 0 (.inl (by omega)) (by decide)
  have e : possS k l = true ↔ firstS k l = (24, 24) := by
    unfold possS
    rw [Bool.and_eq_true, beq_iff_eq, beq_iff_eq]
    constructor
    · rintro ⟨h1, h2⟩; rw [← h1]; exact Prod.ext rfl (by simp [h1, h2])
    · intro h; rw [h]; exact ⟨rfl, rfl⟩
  rw [e]
  refine h.trans ⟨fun g a b h1 h2 h3 => g a b h1 h2 h3 (by omega), fun g a b h1 h2 h3 _ => g a b h1 h2 h3⟩
/-! ### A quick reckoning -/
noncomputable def cntNH (a b : Nat) (l : List (Nat × Nat)) : Nat := List.rec 0 (fun h _ ih => bif Nat.ble a h.1 then bif Nat.ble h.2 b then Nat.succ ih else ih else ih) l
def natL (l : List (Nat × Nat)) : List (Int × Int) := l.map fun h => ((h.1 : Int), (h.2 : Int))
theorem cntN_eq (a b : Nat) : ∀ l : List (Nat × Nat), cntNH a b l = holdsS a b (natL l)
  | [] => rfl
  | h :: l => by
    have ih := cntN_eq a b l
    have e : cntNH a b (h :: l) = bif Nat.ble a h.1 then bif Nat.ble h.2 b then Nat.succ (cntNH a b l) else cntNH a b l else cntNH a b l := rfl
    rw [e, ih]
    simp only [holdsS, natL, List.map_cons, List.countP_cons, inS]
    by_cases h1 : a ≤ h.1
    · rw [Nat.ble_eq_true_of_le h1]
      by_cases h2 : h.2 ≤ b
      · rw [Nat.ble_eq_true_of_le h2]
        simp [Int.ofNat_le.2 h1, Int.ofNat_le.2 h2]
      · have : Nat.ble h.2 b = false := by
          cases hb : Nat.ble h.2 b with
          | false => rfl
          | true => exact absurd (Nat.le_of_ble_eq_true hb) h2
        rw [this]
        simp [h2]
    · have : Nat.ble a h.1 = false := by
        cases hb : Nat.ble a h.1 with
        | false => rfl
        | true => exact absurd (Nat.le_of_ble_eq_true hb) h1
      rw [this]
      simp [h1]
noncomputable def possN (k : Nat) (l : List (Nat × Nat)) : Bool := (List.range 24).all fun a => (List.range 24).all fun b => bif Nat.ble a b then Nat.ble (cntNH a b l) (Nat.mul (Nat.sub (Nat.succ b) a) k) else true
theorem possN_eq (k : Nat) (l : List (Nat × Nat)) : possN k l = possS k (natL l) := by
  rw [Bool.eq_iff_iff, possS_iff]
  unfold possN
  simp only [List.all_eq_true, List.mem_range]
  have hmul : ∀ a b : Nat, a ≤ b → ((b : Int) - a + 1) * (k : Int) = ((b + 1 - a) * k : Nat) := by
    intro a b hab
    rw [Int.natCast_mul]; congr 1; omega
  constructor
  · intro h a b h1 h2 h3
    obtain ⟨a, rfl⟩ := Int.eq_ofNat_of_zero_le h1
    obtain ⟨b, rfl⟩ := Int.eq_ofNat_of_zero_le (by omega : 0 ≤ b)
    have := h a (by omega) b (by omega)
    rw [Nat.ble_eq_true_of_le (by omega), cond_true] at this
    have := Nat.le_of_ble_eq_true this
    rw [cntN_eq] at this
    unfold crowdedS
    rw [hmul a b (by omega)]
    simp only [decide_eq_false_iff_not, Int.not_lt]
    exact Int.ofNat_le.2 this
  · intro h a ha b hb
    cases hab : Nat.ble a b with
    | false => rfl
    | true =>
      have hab := Nat.le_of_ble_eq_true hab
      have := h a b (by omega) (by omega) (by omega)
      unfold crowdedS at this
      rw [hmul a b hab, decide_eq_false_iff_not, Int.not_lt] at this
      rw [cond_true, cntN_eq]
      exact Nat.ble_eq_true_of_le (Int.ofNat_le.1 this)
noncomputable def crowdedN (a b k : Nat) (l : List (Nat × Nat)) : Bool := !(Nat.ble (cntNH a b l) (Nat.mul (Nat.sub (Nat.succ b) a) k))
theorem crowdedN_eq {a b : Nat} (hab : a ≤ b) (k : Nat) (l : List (Nat × Nat)) : crowdedN a b k l = crowdedS a b k (natL l) := by
  have hmul : ((b : Int) - a + 1) * (k : Int) = ((b + 1 - a) * k : Nat) := by
    rw [Int.natCast_mul]; congr 1; omega
  unfold crowdedN crowdedS
  rw [hmul, cntN_eq]
  cases hb : Nat.ble (holdsS a b (natL l)) (Nat.mul (Nat.sub (Nat.succ b) a) k) with
  | true =>
    have := Nat.le_of_ble_eq_true hb
    symm
    simp only [Bool.not_true, decide_eq_false_iff_not, Int.not_lt]
    exact Int.ofNat_le.2 this
  | false =>
    symm
    simp only [Bool.not_false, decide_eq_true_eq]
    refine Int.ofNat_lt.2 (Nat.lt_of_not_le fun h => ?_)
    have : Nat.ble (holdsS a b (natL l)) (Nat.mul (Nat.sub (Nat.succ b) a) k) = true := Nat.ble_eq_true_of_le h
    rw [hb] at this; cases this
noncomputable def fcN (k : Nat) (l : List (Nat × Nat)) (n : Nat) : Nat → Nat → Nat × Nat :=
  Nat.rec (fun a b => (a, b)) (fun _ ih a b => bif (bif Nat.beq a 24 then Nat.beq b 24 else false) then (a, b) else bif crowdedN a b k l then (a, b) else bif Nat.ble b 22 then forceN (Nat.succ b) fun b => ih a b else forceN (Nat.succ a) fun a => ih a a) n
theorem fcN_eq (k : Nat) (l : List (Nat × Nat)) : ∀ (n a b : Nat), a ≤ b → b ≤ 24 → (a = 24 → b = 24) → fcS k (natL l) n a b = (((fcN k l n a b).1 : Int), ((fcN k l n a b).2 : Int))
  | 0, a, b, _, _, _ => rfl
  | n + 1, a, b, hab, hb, h24 => by
    have e : fcN k l (n + 1) a b = bif (bif Nat.beq a 24 then Nat.beq b 24 else false) then (a, b) else bif crowdedN a b k l then (a, b) else bif Nat.ble b 22 then forceN (Nat.succ b) fun b => fcN k l n a b else forceN (Nat.succ a) fun a => fcN k l n a a := rfl
    rw [e]
    simp only [forceN_eq]
    unfold fcS
    rw [crowdedN_eq hab]
    by_cases hp : a = 24 ∧ b = 24
    · obtain ⟨rfl, rfl⟩ := hp
      simp
    · have e1 : (bif Nat.beq a 24 then Nat.beq b 24 else false) = false := by
        cases h : Nat.beq a 24 with
        | false => rfl
        | true =>
          have := Nat.eq_of_beq_eq_true h
          exact absurd ⟨this, h24 this⟩ hp
      have e2 : ((a : Int) == 24 && (b : Int) == 24) = false := by
        rw [Bool.and_eq_false_iff]; left; simp; omega
      rw [e1, e2, Bool.false_or, cond_false]
      cases hc : crowdedS a b k (natL l) with
      | true => simp
      | false =>
        simp only [Bool.false_eq_true, if_false, cond_false]
        unfold nextS
        by_cases h22 : b ≤ 22
        · rw [Nat.ble_eq_true_of_le h22, cond_true, if_pos (by omega)]
          exact fcN_eq k l n a (b + 1) (by omega) (by omega) (by omega)
        · have : Nat.ble b 22 = false := by
            cases hb : Nat.ble b 22 with
            | false => rfl
            | true => exact absurd (Nat.le_of_ble_eq_true hb) h22
          rw [this, cond_false, if_neg (by omega)]
          exact fcN_eq k l n (a + 1) (a + 1) (by omega) (by omega) (by omega)
theorem firstS_nat (k : Nat) (l : List (Nat × Nat)) : firstS k (natL l) = (((fcN k l 601 0 0).1 : Int), ((fcN k l 601 0 0).2 : Int)) := fcN_eq k l 601 0 0 (by omega) (by omega) (by omega)
end Go.Proofs.YtengokpphglodaaDoor

/- The rest of a function by the kernel, beside the package variable: for laws whose first steps leave few cases. -/
namespace Go.Proofs.YtengokpphglodaaDoor
open Go Go.Proofs.YtengokpphglodaaDoor.AX

section
variable {P : Program}
/-- Statements one after the other, by the quick run. -/
noncomputable def runKL (C : Cx P) (ks : List Nat) (nt n : Nat) (cs : List Code) : Env → AH → Option (Ex × Env × AH) :=
  List.rec (motive := fun _ => Env → AH → Option (Ex × Env × AH)) (fun e H => some (.normal, e, H)) (fun c _ ih e H => match runJ P ks (runZ C n) nt n c e H with
    | some (.normal, e', H') => ih e' H'
    | r => r) cs
theorem runKL_cons (C : Cx P) (ks : List Nat) (nt n : Nat) (c : Code) (cs : List Code) (e : Env) (H : AH) : runKL C ks nt n (c :: cs) e H = match runJ P ks (runZ C n) nt n c e H with
    | some (.normal, e', H') => runKL C ks nt n cs e' H'
    | r => r := rfl
theorem L_kern {C : Cx P} (hC : C.Ok) (ks : List Nat) (n : Nat) {nt : Nat} {Q : Ex → Env → AH → Prop} {r : Ex × Env × AH} (hq : ∀ e2, EqE e2 r.2.1 → Q r.1 e2 r.2.2) : ∀ (cs : List Code) (e0 e : Env) (H : AH), EqE e0 e → runKL C ks nt n cs e H = some r → cs.all codeOrd = true → AWL P nt cs e0 H Q
  | [], e0, e, H, he, h, _ => by
    have h : some (Ex.normal, e, H) = some r := h
    cases h
    exact hq e0 he
  | c :: cs, e0, e, H, he, h, ho => by
    rw [List.all_cons, Bool.and_eq_true] at ho
    rw [runKL_cons] at h
    cases hx : runJ P ks (runZ C n) nt n c e H with
    | none => rw [hx] at h; cases h
    | some t =>
      obtain ⟨x, e', H'⟩ := t
      rw [hx] at h
      have hW := AW.eqE he (runK_sound hC.mixed (runZ_sound hC n).1 (runZ_sound hC n).2 n c _ _ _ _ _ ho.1 (runJ_runK _ _ _ _ _ hx))
      show AW P nt c e0 H _
      refine hW.mono ?_
      rintro x2 e2 H2 ⟨rfl, he2, rfl⟩
      cases x2 with
      | normal => exact L_kern hC ks n hq cs e2 e' _ he2 h ho.2
      | exit i => cases h; exact hq e2 he2
      | goto i => cases h; exact hq e2 he2
      | ret => cases h; exact hq e2 he2
/-- The package variable stands as it stood. -/
def headG : AH → Bool
  | .gvar 0 [.int .i64 (.ofNat 24), .int .i64 (.ofNat 24)] :: _ => true
  | _ => false
theorem headG_ext {H : AH} (h : headG H = true) : Ext (gRows gs) H := by
  unfold headG at h
  split at h
  · rename_i T
    exact Ext.push (gRows gs) T
  · cases h
noncomputable def kernT (C : Cx P) (fn : Func) (ks : List Nat) (nt n : Nat) (cs : List Code) (e : Env) (H : AH) : Bool :=
  match runKL C ks nt n cs e H with
  | some (.normal, e', H') | some (.ret, e', H') => (match aResults P fn e' H' with
    | some (.bool b) => b && headG H'
    | _ => false)
  | _ => false
/-- A law's rest returns true, as the kernel finds. -/
theorem L_kernT {C : Cx P} (hC : C.Ok) (ks : List Nat) (n : Nat) {nt : Nat} {fn : Func} {cs cs0 : List Code} {e : Env} {H : AH} (hc : cs = cs0) (h : kernT C fn ks nt n cs0 e H = true) (ho : cs0.all codeOrd = true) :
    AWL P nt cs e H fun x e' H' => (x = .normal ∨ x = .ret) ∧ ∃ v, aResults P fn e' H' = some v ∧ v = .bool true ∧ Ext (gRows gs) H' := by
  subst hc
  unfold kernT at h
  split at h
  · rename_i e' H' hr
    refine L_kern hC ks n (fun e2 he2 => ⟨.inl rfl, ?_⟩) cs e e H (.refl _) hr ho
    split at h
    · rename_i b hb
      simp only [Bool.and_eq_true] at h
      obtain ⟨rfl, h⟩ := h
      exact ⟨_, by rw [aResults_eqE he2]; exact hb, rfl, headG_ext h⟩
    · cases h
  · rename_i e' H' hr
    refine L_kern hC ks n (fun e2 he2 => ⟨.inr rfl, ?_⟩) cs e e H (.refl _) hr ho
    split at h
    · rename_i b hb
      simp only [Bool.and_eq_true] at h
      obtain ⟨rfl, h⟩ := h
      exact ⟨_, by rw [aResults_eqE he2]; exact hb, rfl, headG_ext h⟩
    · cases h
  · cases h
/-- What holds over the package variable alone holds over all. -/
theorem AC.of_nilG {f : FuncId} {args : List AV} (ha : Bels 0 args) (h : AC P f args (gRows gs) fun u H' => u = .bool true ∧ Ext (gRows gs) H') (H : AH) (hg : HasG gs H) : AC P f args H fun u _ => u = .bool true := by
  have h1 : AC P f args (gRows gs) fun v' H' => v' = .bool true ∧ H' = gRows gs :=
    AC.quiet (v := .bool true) rfl (fun Q hQ => h.mono fun u H' hu => by rw [hu.1]; exact hQ H' hu.2) _ ⟨rfl, rfl⟩
  exact (h1.closedG ha (.bool _) H hg).mono fun v' H' hv => hv.1
end
/-- What is left of a function after its first statements. -/
noncomputable def restOf (fn : Func) (k : Nat) : List Code := match fn.body with | some c => (flat c).drop k | none => []
end Go.Proofs.YtengokpphglodaaDoor

/- The examples that each law ends with. -/
namespace Go.Proofs.YtengokpphglodaaDoor
open Go Go.Proofs.YtengokpphglodaaDoor.AX

/-- Heaps read off their cells. -/
def readN : List AV → Option (List (Nat × Nat))
  | [] => some []
  | .int .i64 (.ofNat a) :: .int .i64 (.ofNat b) :: rest => match readN rest with
    | some l => some ((a, b) :: l)
    | none => none
  | _ => none
theorem readN_get : ∀ {vs : List AV} {l : List (Nat × Nat)}, readN vs = some l → vs.length = l.length * 2 ∧ ∀ i (hi : i < l.length), (vs.drop (i * 2)).take 2 = two l[i].1 l[i].2
  | [], l, h => by
    simp [readN] at h; subst h
    exact ⟨rfl, fun i hi => by simp at hi⟩
  | [_], l, h => by simp [readN] at h
  | x :: y :: rest, l, h => by
    unfold readN at h
    split at h
    case h_1 => rename_i h0; simp at h0
    case h_3 => cases h
    rename_i a b rest' heq
    simp only [List.cons.injEq] at heq
    obtain ⟨rfl, rfl, rfl⟩ := heq
    split at h
    case h_2 => cases h
    rename_i l' hl
    cases h
    obtain ⟨h1, h2⟩ := readN_get hl
    refine ⟨by simp [h1]; omega, fun i hi => ?_⟩
    cases i with
    | zero => simp [two]
    | succ i =>
      have := h2 i (by simpa using hi)
      rw [show (i + 1) * 2 = i * 2 + 1 + 1 by omega, List.drop_succ_cons, List.drop_succ_cons, this]
      simp
/-- Heaps and hands read off a call's arguments. -/
noncomputable def heapsX {α : Type} (args : List AV) (H : AH) (no : α) (k : Nat → List (Nat × Nat) → α) : α :=
  match args with
  | [.slice r off len ver sz _, .int .i64 (.ofNat h)] =>
    bif Nat.ble len 1000 && Nat.ble h 1000 then
      match gfind H 0 with
      | some [.int .i64 (.ofNat 24), .int .i64 (.ofNat 24)] =>
        match r with
        | none => bif Nat.beq len 0 then k h [] else no
        | some r => bif Nat.beq sz 2 then
            match ldn H r ver (len * 2) off with
            | some vs => match readN vs with
              | some l => k h l
              | none => no
            | none => no
          else no
      | _ => no
    else no
  | _ => no
theorem hs_of {H : AH} {r off len ver : Nat} {full : Bool} {vs : List AV} {l : List (Nat × Nat)} (h : ldn H r ver (len * 2) off = some vs) (hl : readN vs = some l) : l.length = len ∧ Hs H (.slice (some r) off len ver 2 full) (natL l) := by
  obtain ⟨h1, h2⟩ := ldn_part h
  obtain ⟨h3, h4⟩ := readN_get hl
  have hlen : l.length = len := by omega
  refine ⟨hlen, some r, off, ver, 2, full, by simp [natL, hlen], fun i hi => ⟨r, rfl, rfl, ?_⟩⟩
  have hi' : i < l.length := by simpa [natL] using hi
  rw [h2 (i * 2) 2 (by omega), h4 i hi']
  simp [cells, natL]
theorem heapsX_ok {α : Type} {args : List AV} {H : AH} {no : Option α} {k : Nat → List (Nat × Nat) → Option α} {r : α} (h : heapsX args H no k = some r) : no = some r ∨
    ∃ v n l, args = [v, .int .i64 (.ofNat n)] ∧ l.length ≤ 1000 ∧ n ≤ 1000 ∧ HasG gs H ∧ Hs H v (natL l) ∧ k n l = some r := by
  unfold heapsX at h
  split at h
  case h_2 => exact .inl h
  rename_i r0 off len ver sz full n
  cases hb : Nat.ble len 1000 && Nat.ble n 1000 with
  | false => rw [hb] at h; exact .inl h
  | true =>
    rw [hb, cond_true] at h
    simp only [Bool.and_eq_true] at hb
    have hl1 := Nat.le_of_ble_eq_true hb.1
    have hk1 := Nat.le_of_ble_eq_true hb.2
    split at h
    case h_2 => exact .inl h
    rename_i hg
    have hG : HasG gs H := by
      intro x hx
      simp only [gs, List.mem_singleton] at hx
      subst hx
      exact ⟨hg, .cons (.int _ _) (.cons (.int _ _) .nil)⟩
    split at h
    · cases h0 : Nat.beq len 0 with
      | false => rw [h0] at h; exact .inl h
      | true =>
        have := Nat.eq_of_beq_eq_true h0
        subst this
        rw [h0, cond_true] at h
        exact .inr ⟨_, n, [], rfl, by simp, hk1, hG, ⟨none, off, ver, sz, full, rfl, fun i hi => by simp [natL] at hi⟩, h⟩
    · rename_i r1
      cases h0 : Nat.beq sz 2 with
      | false => rw [h0] at h; exact .inl h
      | true =>
        have := Nat.eq_of_beq_eq_true h0
        subst this
        rw [h0, cond_true] at h
        split at h
        case h_2 => exact .inl h
        rename_i vs hvs
        split at h
        case h_2 => exact .inl h
        rename_i l hl
        obtain ⟨h1, h2⟩ := hs_of (full := full) hvs hl
        exact .inr ⟨_, n, l, rfl, by omega, hk1, hG, h2, h⟩
noncomputable def possX (args : List AV) (H : AH) : Option (AV × AH) := heapsX args H none fun n l => some (.bool (possN n l), H)
noncomputable def firstX (args : List AV) (H : AH) : Option (AV × AH) := heapsX args H none fun n l => Prod.rec (fun a b => forceN a fun a => forceN b fun b => some (.agg [.int .i64 (.ofNat a), .int .i64 (.ofNat b)], H)) (fcN n l 601 0 0)
theorem possX_ok {args : List AV} {H : AH} {v : AV} {H' : AH} (h : possX args H = some (v, H')) : AC Tryd.prog 46 args H fun v' H2 => v' = v ∧ H2 = H' := by
  rcases heapsX_ok h with h | ⟨u, n, l, rfl, hl, hn, hG, hH, h⟩
  · cases h
  · cases h
    refine possible_ac n u (natL l) H _ (by simp [natL]; omega) hH ⟨Int.natCast_nonneg n, Int.ofNat_le.2 hn⟩ hG ⟨?_, rfl⟩
    rw [possN_eq]
theorem firstX_ok {args : List AV} {H : AH} {v : AV} {H' : AH} (h : firstX args H = some (v, H')) : AC Tryd.prog 56 args H fun v' H2 => v' = v ∧ H2 = H' := by
  rcases heapsX_ok h with h | ⟨u, n, l, rfl, hl, hn, hG, hH, h⟩
  · cases h
  · simp only [forceN_eq] at h
    cases h
    refine firstCrowded_q n u (natL l) H (by simp [natL]; omega) hH ⟨Int.natCast_nonneg n, Int.ofNat_le.2 hn⟩ hG _ ⟨?_, rfl⟩
    rw [firstS_nat]; rfl
theorem cond_some {α : Type} {b : Bool} {x y : Option α} {r : α} (h : (bif b then x else y) = some r) : (b = true ∧ x = some r) ∨ y = some r := by
  cases b with
  | true => exact .inl ⟨rfl, h⟩
  | false => exact .inr h
/-- The context in which plans are reckoned at once. -/
noncomputable def cxp : Cx Tryd.prog where
  good := goodT
  keep := keepT
  ext f args H := bif Nat.beq f 46 then possX args H else bif Nat.beq f 56 then firstX args H else none
theorem cxp_ok : cxp.Ok where
  mixed := cx_ok.mixed
  ord f h := cx_ok.ord f h
  ext f args H v H' h := by
    simp only [cxp] at h
    rcases cond_some h with ⟨e, h⟩ | h
    · have := Nat.eq_of_beq_eq_true e; subst this; exact possX_ok h
    rcases cond_some h with ⟨e, h⟩ | h
    · have := Nat.eq_of_beq_eq_true e; subst this; exact firstX_ok h
    cases h
end Go.Proofs.YtengokpphglodaaDoor

/- Blends as orders: all blends of at most seven leaves are tried, by the kernel. -/
namespace Go.Proofs.YtengokpphglodaaDoor
open Go Go.Proofs.YtengokpphglodaaDoor.AX

set_option maxRecDepth 100000 in
theorem works_run : callN (runZ cxp 3000) 14 [] (gRows gs) = some (.bool true, gRows gs) := by kernel_rfl
theorem works_ac (H : AH) (Q : AV → AH → Prop) (hg : HasG gs H) (h : Q (.bool true) H) : AC Tryd.prog 14 [] H Q := AC_kernG cxp_ok 3000 gs hg works_run .nil (.bool _) h
noncomputable def extT (f : FuncId) (args : List AV) (H : AH) : Option (AV × AH) := match args with
  | [] => bif Nat.beq f 14 then (match gfind H 0 with | some [.int .i64 (.ofNat 24), .int .i64 (.ofNat 24)] => some (.bool true, H) | _ => none) else none
  | _ => none
theorem extT_ok {f : FuncId} {args : List AV} {H : AH} {v : AV} {H' : AH} (h : extT f args H = some (v, H')) : AC Tryd.prog f args H fun v' H2 => v' = v ∧ H2 = H' := by
  unfold extT at h
  split at h
  · rcases cond_some h with ⟨e, hx⟩ | h
    · have := Nat.eq_of_beq_eq_true e
      subst this
      split at hx
      · rename_i hg
        obtain ⟨rfl, rfl⟩ := Prod.mk.inj (Option.some.inj hx)
        refine works_ac _ _ ?_ ⟨rfl, rfl⟩
        intro x hx
        simp only [gs, List.mem_singleton] at hx
        subst hx
        exact ⟨hg, .cons (.int _ _) (.cons (.int _ _) .nil)⟩
      · cases hx
    · cases h
  · cases h
noncomputable def cxz : Cx Tryd.prog where
  good := goodT
  keep := keepT
  ext := extT
theorem cxz_ok : cxz.Ok where
  mixed := cx_ok.mixed
  ord f h := cx_ok.ord f h
  ext _f _args _H _v _H' h := extT_ok h
/-- How many blends there are. -/
def bin7 : Nat → Nat → Nat
  | _, 0 => 1
  | 0, _ + 1 => 0
  | n + 1, k + 1 => bin7 n k + bin7 n (k + 1)
noncomputable def cntR (n k : Nat) : Bool := match callN (runZ cx 3000) 4 [.int .i64 (.ofNat n), .int .i64 (.ofNat k)] [] with
  | some (.tuple [.int .i64 (.ofNat c), .int .i64 (.ofNat 0)], []) => Nat.beq c (bin7 n k) && Nat.ble 1 c && Nat.ble c 35
  | _ => false
set_option maxRecDepth 100000 in
theorem cnt_tab : ((List.range 8).all fun n => (List.range (n + 1)).all fun k => Nat.beq n 0 || cntR n k) = true := by kernel_rfl
theorem cnt_ac {n k : Nat} (h1 : 1 ≤ n) (h2 : n ≤ 7) (hk : k ≤ n) : (1 ≤ bin7 n k ∧ bin7 n k ≤ 35) ∧ ∀ (H : AH) (Q : AV → AH → Prop), Q (.tuple [.int .i64 (bin7 n k), .int .i64 0]) H → AC Tryd.prog 4 [.int .i64 n, .int .i64 k] H Q := by
  have h3 := List.all_eq_true.1 (List.all_eq_true.1 cnt_tab n (List.mem_range.2 (by omega))) k (List.mem_range.2 (by omega))
  have : Nat.beq n 0 = false := by
    cases h3 : Nat.beq n 0 with
    | false => rfl
    | true => have := Nat.eq_of_beq_eq_true h3; omega
  rw [this, Bool.false_or] at h3
  unfold cntR at h3
  split at h3
  · rename_i c hc
    simp only [Bool.and_eq_true, Nat.ble_eq] at h3
    have e := Nat.eq_of_beq_eq_true h3.1.1
    rw [e] at hc h3
    exact ⟨⟨h3.1.2, h3.2⟩, fun H Q h => AC_kernZ cx_ok 3000 hc (.cons (.int _ _) (.cons (.int _ _) .nil)) (.tuple (.cons (.int _ _) (.cons (.int _ _) .nil))) h⟩
  · cases h3
noncomputable def rest7 : List Code := restOf Tryd.f3 7
noncomputable def tk (n k x : Nat) : Bool := match callN (runZ cxz 3000) 5 [.int .i64 (.ofNat n), .int .i64 (.ofNat k), .int .i64 (.ofNat x)] (gRows gs ++ [.row [.int .i64 (.ofNat n)] 0 0 false]) with
  | some (.tuple [l, e], H') => kernT cxz Tryd.f3 (keepT 3) 205 3000 rest7 [(7, .ptr 1 0 0), (8, .int .i64 (.ofNat k)), (9, .int .i64 (.ofNat (bin7 n k))), (10, e), (11, l)] H'
  | _ => false
theorem st3n (H : AH) (n : Int) : storeV Tryd.prog 3 (H ++ [.row [.int .i64 0] 0 0 false]) (.ptr H.length 0 0) (.int .i64 n) = some (none, H ++ [.row [.int .i64 n] 0 0 false]) := by
  rw [store_last sc3 rfl (y := .int .i64 0) rfl]; rfl
set_option maxRecDepth 100000 in
theorem topChosen_ac (a b c : Nat) (ha : a < 256) (hb : b < 256) (hc : c < 65536) (H : AH) (hg : HasG gs H) (htab : ∀ n k x, 1 ≤ n → n ≤ 7 → k ≤ n → x < bin7 n k → tk n k x = true) : AC Tryd.prog 3 [.int .u8 a, .int .u8 b, .int .u16 c] H fun v _ => v = .bool true := by
  refine AC.of_nilG (.cons (.int _ _) (.cons (.int _ _) (.cons (.int _ _) .nil))) ?_ H hg
  refine L_body 205 Tryd.func3 rfl rfl ?_
  have tm : ∀ a b : Nat, ((a : Int)).tmod (b : Int) = ((a % b : Nat) : Int) := fun a b => by rw [Int.tmod_eq_emod_of_nonneg (by omega)]; rfl
  obtain ⟨n, hn⟩ : ∃ n, n = 1 + a % 7 := ⟨_, rfl⟩
  have hn1 : 1 ≤ n ∧ n ≤ 7 := by omega
  have hn2 : (1 : Int) + (a : Int) % 7 = n := by omega
  have t1 := tm a 7
  rw [show ((7 : Nat) : Int) = 7 from rfl] at t1
  obtain ⟨q, hq⟩ : ∃ q, q = n + 1 := ⟨_, rfl⟩
  have hq2 : (n : Int) + 1 = q := by omega
  have hq0 : ¬ q = 0 := by omega
  obtain ⟨k, hk⟩ : ∃ k, k = b % q := ⟨_, rfl⟩
  have hk1 : k < q := hk ▸ Nat.mod_lt _ (by omega)
  have t2 := tm b q
  rw [← hk] at t2
  obtain ⟨I, hI, hz⟩ := zeroT_some zt3
  have hst := st3n (gRows gs) n
  have hld : ld (gRows gs ++ [.row [.int .i64 (n : Int)] 0 0 false]) (gRows gs).length 0 0 = some (.int .i64 n) := by rw [ld_last]; rfl
  have hC := cnt_ac hn1.1 hn1.2 (show k ≤ n by omega)
  obtain ⟨hm, hC⟩ := hC
  have ht := htab n k (c % bin7 n k) hn1.1 hn1.2 (by omega) (Nat.mod_lt _ (by omega))
  refine L_reg [0, 1, 2] (fun K hK => ?_)
  simp
  apply hK; clear hK K
  refine L_reg [1, 2, 7] (fun K hK => ?_)
  simp [hI, hz, wrap_i64 (a := (a : Int)) (by omega), t1, hn2, wrap_i64 (a := (n : Int)) (by omega), hst]
  apply hK; clear hK K
  generalize hp : (gRows gs).length = p at *
  refine L_reg [2, 7, 8] (fun K hK => ?_)
  simp [hld, hq2, wrap_i64 (a := (b : Int)) (by omega), wrap_i64 (a := (q : Int)) (by omega), t2, hq0]
  apply hK; clear hK K
  refine L_reg [2, 7, 8, 9, 10] (fun K hK => ?_)
  simp [okFn_low, hld]
  refine hC _ _ ?_
  simp
  apply hK; clear hK K
  unfold tk at ht
  obtain ⟨m, hmm⟩ : ∃ m, m = bin7 n k := ⟨_, rfl⟩
  rw [← hmm] at ht hm ⊢
  refine L_reg [2, 7, 8, 9, 52] (fun K hK => ?_)
  simp [pickV, show ¬ (m : Int) < 1 by omega, show ¬ (35 : Int) < m by omega]
  apply hK; clear hK K
  refine L_false (by simp) ?_
  have t3 := tm c m
  have hm0 : ¬ m = 0 := by omega
  generalize c % m = x at *
  split at ht
  case h_2 => cases ht
  rename_i l e H' hA
  have hAt : AC Tryd.prog 5 [.int .i64 n, .int .i64 k, .int .i64 x] (gRows gs ++ [.row [.int .i64 (n : Int)] 0 0 false]) fun v' H2 => v' = .tuple [l, e] ∧ H2 = H' := AC_runZ cxz_ok 3000 hA
  refine L_regT mixed [7, 8, 9, 10, 11] (by kernel_rfl) (fun K hK => ?_)
  simp [okFn_low, hld, wrap_i64 (a := (c : Int)) (by omega), t3, hm0]
  refine ⟨.tuple [l, e], H', by simpa [hp] using hAt, ?_⟩
  simp
  apply hK; clear hK K
  have hp1 : p = 1 := hp.symm
  subst hp1
  exact L_kernT cxz_ok (keepT 3) 3000 (by kernel_rfl) ht (by kernel_rfl)
end Go.Proofs.YtengokpphglodaaDoor

/- What the listed package variable gives. -/
namespace Go.Proofs.YtengokpphglodaaDoor
open Go Go.Proofs.YtengokpphglodaaDoor.AX Go.ChangeShapes Go.WideShapes Go.ChangeAt Go.RowKit
def laid : List (String × DataW Unit) := [("vitola/heap.past", Rows.laid_vitola_heap_past)]
theorem own : ownKnob Tryd.prog.godebug = none := by kernel_rfl
def doorSteps : Nat := 400
theorem door_met (os : Os) (args : Array Value) : laidMetH Tryd.prog laid ((World.doorLaid Tryd.prog doorSteps os).forCall (fun _ _ => 0) ⟨#[], args, []⟩).memory :=
  laidMetH_of_parts3 (fuel := 8) (laidMet_of_run' 8 (by kernel_rfl) (by kernel_rfl)) (by kernel_rfl) (by kernel_rfl)
theorem gPast : Tryd.prog.globalNamed "vitola/heap.past" = some 0 := by kernel_rfl
theorem tPast : (Tryd.prog.globals[0]?).map (·.type) = some 94 := by kernel_rfl
set_option maxRecDepth 100000 in
theorem of_laid {W : World} (h : laidMetH Tryd.prog laid W) : ∀ x ∈ gs, ∃ C e fz, W.heap[x.1]? = some (.cells C e fz) ∧ RelVs .empty x.2 C.toList := by
  rw [MakeChecks.laidMetH_plain _ _ _ (by kernel_rfl)] at h
  obtain ⟨ps, ⟨g0, t0, cs0, f0, p0, q0, hg0, ht0, hv0, hd0, _, _⟩, _, _⟩ := h
  obtain rfl := Option.some.inj (gPast.symm.trans hg0)
  obtain rfl := Option.some.inj (tPast.symm.trans ht0)
  intro x hx
  simp only [gs, List.mem_singleton] at hx
  subst hx
  unfold World.var? at hv0
  rw [gPast] at hv0
  simp only [Option.bind_some] at hv0
  split at hv0
  case h_2 => cases hv0
  rename_i C e fz hC
  have hcs := Option.some.inj hv0
  rw [hcs] at hC
  refine ⟨cs0, e, fz, hC, ?_⟩
  have hu := Tryd.underlying94
  obtain ⟨xs, m, -, hx1, hlen, hn, hel⟩ := DataW.trod_struct hu hd0
  have c3 : Tryd.prog.cellsOf 3 = 1 := by kernel_rfl
  have c94 : Tryd.prog.cellsOf 94 = 2 := by kernel_rfl
  obtain ⟨l⟩ := cs0
  have h0 : DataW.trod _ Tryd.prog W 0 _ false m 3 ((l.drop 0).take (Tryd.prog.cellsOf 3)) = xs[0]? := hel 0 _ rfl
  have h1 : DataW.trod _ Tryd.prog W 0 _ false m 3 ((l.drop 1).take (Tryd.prog.cellsOf 3)) = xs[1]? := hel 1 _ rfl
  rw [c94] at hlen
  rw [c3] at h0 h1
  have hx1 : [DataW.lit (Lit.int .i64 24), DataW.lit (Lit.int .i64 24)] = xs.map (·.1) := DataW.agg.inj (congrArg Prod.fst hx1)
  match l, hlen, xs, hn, hx1, h0, h1 with
  | [a, b], _, [x0, x1], _, hx1, h0, h1 =>
    simp only [List.map_cons, List.map_nil, List.cons.injEq] at hx1
    obtain ⟨n0, e1, e2, _⟩ := DataW.trod_int Tryd.underlying3 (show DataW.trod _ Tryd.prog W 0 _ false m 3 [a] = some x0 from h0)
    obtain ⟨n1, e3, e4, _⟩ := DataW.trod_int Tryd.underlying3 (show DataW.trod _ Tryd.prog W 0 _ false m 3 [b] = some x1 from h1)
    cases e1
    cases e3
    rw [e2, e4] at hx1
    have q0 : (24 : Int) = n0 := by simpa using hx1.1
    have q1 : (24 : Int) = n1 := by simpa using hx1.2
    subst q0
    subst q1
    exact .cons (.int _ _) (.cons (.int _ _) .nil)
theorem hasG_H0 {W : World} {bs : List Nat} : HasG gs (H0 W bs ++ gRows gs) := by
  intro x hx
  simp only [gs, List.mem_singleton] at hx
  subst hx
  exact ⟨by rw [gfind_H0]; rfl, .cons (.int _ _) (.cons (.int _ _) .nil)⟩
theorem wants_of {P : Program} {ts : Array TypeId} (h : (ts.toList.all fun t => !P.wantsStandIn t) = true) : ∀ (j : Nat) (t : TypeId), ts[j]? = some t → P.wantsStandIn t = false := by
  intro j t ht
  have := List.all_eq_true.1 h t (by rw [Array.mem_toList_iff]; exact Array.mem_of_getElem? ht)
  simpa using this
end Go.Proofs.YtengokpphglodaaDoor
