/- Joined texts: Base, TF, HFacts, HSpan, HPoss, Kern, Works, WSpread, Laid. -/
import Derived.Test.YticlfkmjmhjiaaaDoorChecked
import Derived.Test.YticlfkmjmhjiaaaDoorAxQ
import Derived.Test.YticlfkmjmhjiaaaDoorAxR
import Derived.Test.YticlfkmjmhjiaaaDoorAxT
import Derived.Test.YticlfkmjmhjiaaaDoorRows
import Derived.LaidMore
import Derived.OpenShut
import Derived.Stop.Joined
import Derived.SevenTiedAt
/- What is run, and what is kept between its statements. -/
namespace Go.Proofs.YticlfkmjmhjiaaaDoor
open Go Go.Proofs.YticlfkmjmhjiaaaDoor.AX Go.RowKit
set_option maxRecDepth 100000

def keepT (f : Nat) : List Nat :=
  bif Nat.ble f 51 then bif Nat.ble f 25 then bif Nat.ble f 12 then bif Nat.ble f 6 then bif Nat.ble f 3 then bif Nat.ble f 1 then bif Nat.ble f 0 then [] else [] else bif Nat.ble f 2 then [] else [0, 1, 2, 6, 7, 8, 9, 10, 11, 12, 13, 14, 15, 16, 17, 18, 19, 20, 22, 23, 24, 25, 43, 65, 66, 67, 87, 110, 112, 113, 114, 116, 117, 118, 119, 140, 168] else bif Nat.ble f 5 then bif Nat.ble f 4 then [0, 1, 2, 6, 7, 8, 9, 10, 11, 12, 13, 14, 15, 17, 18, 19, 20, 31, 72, 88, 93, 94, 95, 96] else [0, 1, 2, 3, 8, 9, 10, 11, 27] else [0, 1, 2, 4, 5, 6, 11] else bif Nat.ble f 9 then bif Nat.ble f 8 then bif Nat.ble f 7 then [0, 1, 4, 5, 6, 8, 9, 10, 11, 15, 20, 21, 22, 23, 24, 33, 37, 52] else [0, 1, 4, 5, 6, 7, 8, 9, 14, 18, 19, 20, 21, 30] else [0, 1, 2, 3, 4] else bif Nat.ble f 11 then bif Nat.ble f 10 then [0, 1, 2, 3, 4, 8] else [0, 2, 3, 5, 8, 11, 12, 13, 14, 15, 25, 28] else [0, 2, 3, 4, 5, 6, 7, 9, 13, 18, 19, 20, 21, 28, 29, 30, 31, 36] else bif Nat.ble f 19 then bif Nat.ble f 16 then bif Nat.ble f 14 then bif Nat.ble f 13 then [0, 1, 4, 5, 6, 12] else [0, 1, 2, 4, 5, 9, 14] else bif Nat.ble f 15 then [0, 1, 2, 4] else [0, 2, 8] else bif Nat.ble f 18 then bif Nat.ble f 17 then [0, 1, 2, 6, 7, 8, 9, 13, 14, 15, 16] else [0, 1, 4, 5, 7, 11, 16, 17, 18, 19, 20, 26] else [0, 1, 4] else bif Nat.ble f 22 then bif Nat.ble f 21 then bif Nat.ble f 20 then [0, 1, 4, 5, 6, 7, 8, 9, 13, 14, 15, 16] else [0, 2] else [0, 1, 4, 5, 10, 12, 13, 14, 24] else bif Nat.ble f 24 then bif Nat.ble f 23 then [0, 1, 2, 3, 4] else [0, 1, 2, 27, 32] else [0, 1, 2, 3, 4, 9, 10, 11] else bif Nat.ble f 38 then bif Nat.ble f 32 then bif Nat.ble f 29 then bif Nat.ble f 27 then bif Nat.ble f 26 then [0, 2, 4, 5, 7, 8, 9, 10, 11, 17, 20, 21, 22, 23, 32] else [0, 1, 4, 5, 6, 7, 8, 9, 10, 12, 13, 14, 19] else bif Nat.ble f 28 then [0, 1, 4] else [0, 1, 2, 3, 6] else bif Nat.ble f 31 then bif Nat.ble f 30 then [0, 1, 2, 4] else [0, 1, 4] else [0, 1, 4] else bif Nat.ble f 35 then bif Nat.ble f 34 then bif Nat.ble f 33 then [0, 1, 2, 6, 7, 11, 17] else [0, 2, 3, 5, 7, 8] else [0, 1, 4, 5, 6, 7, 8, 9, 10, 16, 30] else bif Nat.ble f 37 then bif Nat.ble f 36 then [0, 1, 2, 3, 4] else [0, 1, 2, 4] else [0, 1, 4] else bif Nat.ble f 45 then bif Nat.ble f 42 then bif Nat.ble f 40 then bif Nat.ble f 39 then [0, 1, 2, 5] else [0, 1, 4, 5, 6, 11, 12, 13, 16, 19] else bif Nat.ble f 41 then [0, 2, 3, 4, 5, 6, 7, 8, 9] else [0, 1, 2, 3, 6] else bif Nat.ble f 44 then bif Nat.ble f 43 then [0, 1, 4, 5, 7, 8, 9, 16] else [0, 1, 4] else [0, 2, 4] else bif Nat.ble f 48 then bif Nat.ble f 47 then bif Nat.ble f 46 then [0, 1, 4, 5, 23] else [0, 1] else [0, 1, 4, 5, 6, 11] else bif Nat.ble f 50 then bif Nat.ble f 49 then [0, 1, 3, 4, 5, 6, 7, 8, 9, 10, 15, 20, 26, 27, 28, 29] else [0, 1, 4, 5, 7] else [0, 1, 2, 3, 4, 10, 11, 12, 13, 14, 15, 16, 17, 18, 19, 20, 25, 32, 39, 56, 75, 80, 97, 125] else bif Nat.ble f 77 then bif Nat.ble f 64 then bif Nat.ble f 58 then bif Nat.ble f 55 then bif Nat.ble f 53 then bif Nat.ble f 52 then [0, 2] else [0, 2] else bif Nat.ble f 54 then [0, 1, 4, 5, 9, 16] else [0, 1, 4] else bif Nat.ble f 57 then bif Nat.ble f 56 then [0, 2, 4] else [0, 1, 2, 6, 15] else [0, 1, 2, 3, 5] else bif Nat.ble f 61 then bif Nat.ble f 60 then bif Nat.ble f 59 then [0, 1, 2, 3, 8, 9, 14, 34] else [0, 1, 2, 3, 8, 9, 10, 11, 12, 21, 33] else [0, 1, 2, 8, 9, 10, 11, 12, 17, 35, 45] else bif Nat.ble f 63 then bif Nat.ble f 62 then [0, 1, 2, 3, 8, 9, 10, 11, 12, 13, 14, 34, 36, 55, 57, 60] else [0, 1, 2, 8, 9, 15] else [0, 1, 2, 3, 8, 9, 10, 11, 12, 16, 36, 41, 45, 65, 69, 84, 104, 109, 124] else bif Nat.ble f 71 then bif Nat.ble f 68 then bif Nat.ble f 66 then bif Nat.ble f 65 then [0, 1, 2, 3, 4, 10, 11, 12, 47, 65, 70] else [0, 1, 2, 3, 4, 10, 11, 12, 13, 47, 66, 71, 120, 139, 144] else bif Nat.ble f 67 then [0, 2, 4, 8] else [0, 2, 4, 8, 14] else bif Nat.ble f 70 then bif Nat.ble f 69 then [0, 2, 4, 5, 8, 9, 10, 11, 12, 21] else [0, 1, 4, 5, 16] else [0, 1, 2, 3, 4, 10, 11, 18, 40, 58] else bif Nat.ble f 74 then bif Nat.ble f 73 then bif Nat.ble f 72 then [0, 2] else [0, 2] else [0, 1, 2, 3, 8] else bif Nat.ble f 76 then bif Nat.ble f 75 then [0, 1, 2, 3, 4, 5, 12] else [0, 1, 4, 12, 15] else [0, 1, 2, 3, 6] else bif Nat.ble f 90 then bif Nat.ble f 84 then bif Nat.ble f 81 then bif Nat.ble f 79 then bif Nat.ble f 78 then [0, 1, 2, 5] else [0, 1, 2, 3, 4, 10, 11, 22] else bif Nat.ble f 80 then [0, 2] else [0, 1, 2, 4, 5, 7, 8, 9, 10, 11, 25] else bif Nat.ble f 83 then bif Nat.ble f 82 then [] else [] else [] else bif Nat.ble f 87 then bif Nat.ble f 86 then bif Nat.ble f 85 then [] else [] else [] else bif Nat.ble f 89 then bif Nat.ble f 88 then [] else [] else [] else bif Nat.ble f 96 then bif Nat.ble f 93 then bif Nat.ble f 92 then bif Nat.ble f 91 then [] else [] else [] else bif Nat.ble f 95 then bif Nat.ble f 94 then [] else [] else [] else bif Nat.ble f 99 then bif Nat.ble f 98 then bif Nat.ble f 97 then [] else [0, 1, 2, 4] else [0, 1, 4] else bif Nat.ble f 101 then bif Nat.ble f 100 then [0, 1, 4] else [] else []

def goodT (f : Nat) : Bool := Nat.ble 3 f && Nat.ble f 100

noncomputable def cx : Cx Tryd.prog where
  good := goodT
  keep := keepT
  ext _ _ _ := none

theorem okAll : (List.range 82).all (fun f => !(Nat.ble 3 f) || okFn Tryd.prog f) = true := by kernel_rfl
theorem okFn_low {f : Nat} (h3 : 3 ≤ f) (h : f ≤ 81) : okFn Tryd.prog f = true := by
  have := (List.all_eq_true.1 okAll) f (List.mem_range.2 (by omega))
  have h1 : Nat.ble 3 f = true := Nat.ble_eq_true_of_le h3
  simpa [h1] using this

theorem goodAll : (List.range 101).all (fun f => !goodT f || fnOrd Tryd.prog f) = true := by kernel_rfl

theorem cx_ok : cx.Ok where
  mixed := by kernel_rfl
  ord f h := by
    have hlt : f < 101 := by
      have h1 : Nat.ble f 100 = true := by
        simp only [cx, goodT, Bool.and_eq_true] at h
        exact h.2
      exact Nat.lt_succ_of_le (Nat.le_of_ble_eq_true h1)
    have := (List.all_eq_true.1 goodAll) f (List.mem_range.2 hlt)
    have hg : goodT f = true := h
    rw [hg] at this
    simpa using this
  ext f args H v H' h := by cases h
theorem mixed : Tryd.prog.follows .mixedOrders = true := by kernel_rfl
end Go.Proofs.YticlfkmjmhjiaaaDoor

/- What the steps ask of the types of this program. -/
namespace Go.Proofs.YticlfkmjmhjiaaaDoor
open Go Go.Proofs.YticlfkmjmhjiaaaDoor.AX
@[simp] theorem ld3 (H : AH) (r off ver : Nat) : loadV Tryd.prog 3 H (.ptr r off ver) = ld H r off ver := ld_sc (by kernel_rfl) ..
theorem sc3 : scal Tryd.prog 3 = true := by kernel_rfl
@[simp] theorem ld4 (H : AH) (r off ver : Nat) : loadV Tryd.prog 4 H (.ptr r off ver) = ld H r off ver := ld_sc (by kernel_rfl) ..
theorem sc4 : scal Tryd.prog 4 = true := by kernel_rfl
@[simp] theorem ld5 (H : AH) (r off ver : Nat) : loadV Tryd.prog 5 H (.ptr r off ver) = ld H r off ver := ld_sc (by kernel_rfl) ..
theorem sc5 : scal Tryd.prog 5 = true := by kernel_rfl
@[simp] theorem ld9 (H : AH) (r off ver : Nat) : loadV Tryd.prog 9 H (.ptr r off ver) = ld H r off ver := ld_sc (by kernel_rfl) ..
theorem sc9 : scal Tryd.prog 9 = true := by kernel_rfl
theorem ag23 : aggSz Tryd.prog 23 = some 3 := by kernel_rfl
@[simp] theorem ld23 (H : AH) (r off ver : Nat) : loadV Tryd.prog 23 H (.ptr r off ver) = (ldn H r ver 3 off).map .agg := load_agg ag23 ..
@[simp] theorem fa23_0 (r off ver : Nat) : aFieldAddr Tryd.prog 23 (.ptr r off ver) 0 = some (.ptr r (off + 0) ver) := fld_ptr (by kernel_rfl) ..
@[simp] theorem fa23_1 (r off ver : Nat) : aFieldAddr Tryd.prog 23 (.ptr r off ver) 1 = some (.ptr r (off + 1) ver) := fld_ptr (by kernel_rfl) ..
@[simp] theorem fa23_2 (r off ver : Nat) : aFieldAddr Tryd.prog 23 (.ptr r off ver) 2 = some (.ptr r (off + 2) ver) := fld_ptr (by kernel_rfl) ..
@[simp] theorem built23 (x0 x1 x2 : Int) : aBuilt Tryd.prog 23 [(0, .int .i64 x0), (1, .int .i64 x1), (2, .int .i64 x2)] = some [.int .i64 x0, .int .i64 x1, .int .i64 x2] := by kernel_rfl
theorem zt23 : zeroT Tryd.prog 23 = some [.int .i64 0, .int .i64 0, .int .i64 0] := by kernel_rfl
@[simp] theorem ld25 (H : AH) (r off ver : Nat) : loadV Tryd.prog 25 H (.ptr r off ver) = ld H r off ver := ld_sc (by kernel_rfl) ..
theorem sc25 : scal Tryd.prog 25 = true := by kernel_rfl
theorem slz25 : slSz Tryd.prog 25 = some 1 := by kernel_rfl
@[simp] theorem len25 (r : Option Nat) (off len ver sz : Nat) (full : Bool) : aLen Tryd.prog 25 (.slice r off len ver sz full) = some (.int .i64 len) := len_sl slz25 ..
@[simp] theorem lenp25 (r off len ver sz : Nat) : aLen Tryd.prog 25 (.part r off len ver sz) = some (.int .i64 len) := len_part slz25 ..
@[simp] theorem ixa25 (r off len ver : Nat) (full : Bool) (k : IntKind) (i : Int) : aIndexAddr Tryd.prog 25 (.slice (some r) off len ver 1 full) (.int k i) = if 0 ≤ i ∧ i < len then some (.ptr r (off + i.toNat * 1) ver) else none := ixa_sl slz25 ..
@[simp] theorem ixap25 (r off len ver : Nat) (k : IntKind) (i : Int) : aIndexAddr Tryd.prog 25 (.part r off len ver 1) (.int k i) = if 0 ≤ i ∧ i < len then some (.ptr r (off + i.toNat * 1) ver) else none := ixa_part slz25 ..
theorem el25 : elT Tryd.prog 25 = true := by kernel_rfl
@[simp] theorem row25 (H : AH) (b : Int) : rowV Tryd.prog 25 1 [(0, .int .i64 b)] H = some (some (.slice (some H.length) 0 1 0 1 false), H ++ [.row [.int .i64 b] 0 1 false]) := row1 el25 rfl rfl
theorem zt25 : zeroT Tryd.prog 25 = some [.slice none 0 0 0 1 false] := by kernel_rfl
@[simp] theorem ld37 (H : AH) (r off ver : Nat) : loadV Tryd.prog 37 H (.ptr r off ver) = ld H r off ver := ld_sc (by kernel_rfl) ..
theorem sc37 : scal Tryd.prog 37 = true := by kernel_rfl
theorem slz37 : slSz Tryd.prog 37 = some 2 := by kernel_rfl
@[simp] theorem len37 (r : Option Nat) (off len ver sz : Nat) (full : Bool) : aLen Tryd.prog 37 (.slice r off len ver sz full) = some (.int .i64 len) := len_sl slz37 ..
@[simp] theorem lenp37 (r off len ver sz : Nat) : aLen Tryd.prog 37 (.part r off len ver sz) = some (.int .i64 len) := len_part slz37 ..
@[simp] theorem ixa37 (r off len ver : Nat) (full : Bool) (k : IntKind) (i : Int) : aIndexAddr Tryd.prog 37 (.slice (some r) off len ver 2 full) (.int k i) = if 0 ≤ i ∧ i < len then some (.ptr r (off + i.toNat * 2) ver) else none := ixa_sl slz37 ..
@[simp] theorem ixap37 (r off len ver : Nat) (k : IntKind) (i : Int) : aIndexAddr Tryd.prog 37 (.part r off len ver 2) (.int k i) = if 0 ≤ i ∧ i < len then some (.ptr r (off + i.toNat * 2) ver) else none := ixa_part slz37 ..
theorem zt37 : zeroT Tryd.prog 37 = some [.slice none 0 0 0 1 false] := by kernel_rfl
theorem ar51 : arSz Tryd.prog 51 = some (7, 1) := by kernel_rfl
@[simp] theorem ixa51 (r off ver : Nat) (k : IntKind) (i : Int) : aIndexAddr Tryd.prog 51 (.ptr r off ver) (.int k i) = if 0 ≤ i ∧ i < (7 : Nat) then some (.ptr r (off + i.toNat * 1) ver) else none := ixa_ar ar51 ..
theorem ag51 : aggSz Tryd.prog 51 = some 7 := by kernel_rfl
@[simp] theorem ld51 (H : AH) (r off ver : Nat) : loadV Tryd.prog 51 H (.ptr r off ver) = (ldn H r ver 7 off).map .agg := load_agg ag51 ..
theorem zt51 : zeroT Tryd.prog 51 = some [.bool false, .bool false, .bool false, .bool false, .bool false, .bool false, .bool false] := by kernel_rfl
@[simp] theorem ld54 (H : AH) (r off ver : Nat) : loadV Tryd.prog 54 H (.ptr r off ver) = ld H r off ver := ld_sc (by kernel_rfl) ..
theorem sc54 : scal Tryd.prog 54 = true := by kernel_rfl
theorem ar56 : arSz Tryd.prog 56 = some (7, 1) := by kernel_rfl
@[simp] theorem ixa56 (r off ver : Nat) (k : IntKind) (i : Int) : aIndexAddr Tryd.prog 56 (.ptr r off ver) (.int k i) = if 0 ≤ i ∧ i < (7 : Nat) then some (.ptr r (off + i.toNat * 1) ver) else none := ixa_ar ar56 ..
theorem ag56 : aggSz Tryd.prog 56 = some 7 := by kernel_rfl
@[simp] theorem ld56 (H : AH) (r off ver : Nat) : loadV Tryd.prog 56 H (.ptr r off ver) = (ldn H r ver 7 off).map .agg := load_agg ag56 ..
theorem zt56 : zeroT Tryd.prog 56 = some [.int .i64 0, .int .i64 0, .int .i64 0, .int .i64 0, .int .i64 0, .int .i64 0, .int .i64 0] := by kernel_rfl
theorem ag58 : aggSz Tryd.prog 58 = some 14 := by kernel_rfl
@[simp] theorem ld58 (H : AH) (r off ver : Nat) : loadV Tryd.prog 58 H (.ptr r off ver) = (ldn H r ver 14 off).map .agg := load_agg ag58 ..
@[simp] theorem fa58_0 (r off ver : Nat) : aFieldAddr Tryd.prog 58 (.ptr r off ver) 0 = some (.ptr r (off + 0) ver) := fld_ptr (by kernel_rfl) ..
@[simp] theorem fa58_1 (r off ver : Nat) : aFieldAddr Tryd.prog 58 (.ptr r off ver) 1 = some (.ptr r (off + 7) ver) := fld_ptr (by kernel_rfl) ..
theorem zt58 : zeroT Tryd.prog 58 = some [.int .i64 0, .int .i64 0, .int .i64 0, .int .i64 0, .int .i64 0, .int .i64 0, .int .i64 0, .int .i64 0, .int .i64 0, .int .i64 0, .int .i64 0, .int .i64 0, .int .i64 0, .int .i64 0] := by kernel_rfl
@[simp] theorem ld60 (H : AH) (r off ver : Nat) : loadV Tryd.prog 60 H (.ptr r off ver) = ld H r off ver := ld_sc (by kernel_rfl) ..
theorem sc60 : scal Tryd.prog 60 = true := by kernel_rfl
@[simp] theorem ld62 (H : AH) (r off ver : Nat) : loadV Tryd.prog 62 H (.ptr r off ver) = ld H r off ver := ld_sc (by kernel_rfl) ..
theorem sc62 : scal Tryd.prog 62 = true := by kernel_rfl
@[simp] theorem ld63 (H : AH) (r off ver : Nat) : loadV Tryd.prog 63 H (.ptr r off ver) = ld H r off ver := ld_sc (by kernel_rfl) ..
theorem sc63 : scal Tryd.prog 63 = true := by kernel_rfl
@[simp] theorem ld65 (H : AH) (r off ver : Nat) : loadV Tryd.prog 65 H (.ptr r off ver) = ld H r off ver := ld_sc (by kernel_rfl) ..
theorem sc65 : scal Tryd.prog 65 = true := by kernel_rfl
@[simp] theorem ld72 (H : AH) (r off ver : Nat) : loadV Tryd.prog 72 H (.ptr r off ver) = ld H r off ver := ld_sc (by kernel_rfl) ..
theorem sc72 : scal Tryd.prog 72 = true := by kernel_rfl
@[simp] theorem ld73 (H : AH) (r off ver : Nat) : loadV Tryd.prog 73 H (.ptr r off ver) = ld H r off ver := ld_sc (by kernel_rfl) ..
theorem sc73 : scal Tryd.prog 73 = true := by kernel_rfl
theorem slz73 : slSz Tryd.prog 73 = some 1 := by kernel_rfl
@[simp] theorem len73 (r : Option Nat) (off len ver sz : Nat) (full : Bool) : aLen Tryd.prog 73 (.slice r off len ver sz full) = some (.int .i64 len) := len_sl slz73 ..
@[simp] theorem lenp73 (r off len ver sz : Nat) : aLen Tryd.prog 73 (.part r off len ver sz) = some (.int .i64 len) := len_part slz73 ..
@[simp] theorem ixa73 (r off len ver : Nat) (full : Bool) (k : IntKind) (i : Int) : aIndexAddr Tryd.prog 73 (.slice (some r) off len ver 1 full) (.int k i) = if 0 ≤ i ∧ i < len then some (.ptr r (off + i.toNat * 1) ver) else none := ixa_sl slz73 ..
@[simp] theorem ixap73 (r off len ver : Nat) (k : IntKind) (i : Int) : aIndexAddr Tryd.prog 73 (.part r off len ver 1) (.int k i) = if 0 ≤ i ∧ i < len then some (.ptr r (off + i.toNat * 1) ver) else none := ixa_part slz73 ..
theorem el73 : elT Tryd.prog 73 = true := by kernel_rfl
theorem ar74 : arSz Tryd.prog 74 = some (2, 1) := by kernel_rfl
@[simp] theorem ixa74 (r off ver : Nat) (k : IntKind) (i : Int) : aIndexAddr Tryd.prog 74 (.ptr r off ver) (.int k i) = if 0 ≤ i ∧ i < (2 : Nat) then some (.ptr r (off + i.toNat * 1) ver) else none := ixa_ar ar74 ..
theorem ag74 : aggSz Tryd.prog 74 = some 2 := by kernel_rfl
@[simp] theorem ld74 (H : AH) (r off ver : Nat) : loadV Tryd.prog 74 H (.ptr r off ver) = (ldn H r ver 2 off).map .agg := load_agg ag74 ..
theorem zt74 : zeroT Tryd.prog 74 = some [.int .i64 0, .int .i64 0] := by kernel_rfl
theorem ag78 : aggSz Tryd.prog 78 = some 1 := by kernel_rfl
@[simp] theorem ld78 (H : AH) (r off ver : Nat) : loadV Tryd.prog 78 H (.ptr r off ver) = (ldn H r ver 1 off).map .agg := load_agg ag78 ..
@[simp] theorem fa78_0 (r off ver : Nat) : aFieldAddr Tryd.prog 78 (.ptr r off ver) 0 = some (.ptr r (off + 0) ver) := fld_ptr (by kernel_rfl) ..
@[simp] theorem built78 (x0 : Int) : aBuilt Tryd.prog 78 [(0, .int .i64 x0)] = some [.int .i64 x0] := by kernel_rfl
theorem zt78 : zeroT Tryd.prog 78 = some [.int .i64 0] := by kernel_rfl
theorem ag86 : aggSz Tryd.prog 86 = some 2 := by kernel_rfl
@[simp] theorem ld86 (H : AH) (r off ver : Nat) : loadV Tryd.prog 86 H (.ptr r off ver) = (ldn H r ver 2 off).map .agg := load_agg ag86 ..
@[simp] theorem fa86_0 (r off ver : Nat) : aFieldAddr Tryd.prog 86 (.ptr r off ver) 0 = some (.ptr r (off + 0) ver) := fld_ptr (by kernel_rfl) ..
@[simp] theorem fa86_1 (r off ver : Nat) : aFieldAddr Tryd.prog 86 (.ptr r off ver) 1 = some (.ptr r (off + 1) ver) := fld_ptr (by kernel_rfl) ..
@[simp] theorem built86 (x0 x1 : Int) : aBuilt Tryd.prog 86 [(0, .int .i64 x0), (1, .int .i64 x1)] = some [.int .i64 x0, .int .i64 x1] := by kernel_rfl
theorem zt86 : zeroT Tryd.prog 86 = some [.int .i64 0, .int .i64 0] := by kernel_rfl
@[simp] theorem ld87 (H : AH) (r off ver : Nat) : loadV Tryd.prog 87 H (.ptr r off ver) = ld H r off ver := ld_sc (by kernel_rfl) ..
theorem sc87 : scal Tryd.prog 87 = true := by kernel_rfl
theorem slz87 : slSz Tryd.prog 87 = some 2 := by kernel_rfl
@[simp] theorem len87 (r : Option Nat) (off len ver sz : Nat) (full : Bool) : aLen Tryd.prog 87 (.slice r off len ver sz full) = some (.int .i64 len) := len_sl slz87 ..
@[simp] theorem lenp87 (r off len ver sz : Nat) : aLen Tryd.prog 87 (.part r off len ver sz) = some (.int .i64 len) := len_part slz87 ..
@[simp] theorem ixa87 (r off len ver : Nat) (full : Bool) (k : IntKind) (i : Int) : aIndexAddr Tryd.prog 87 (.slice (some r) off len ver 2 full) (.int k i) = if 0 ≤ i ∧ i < len then some (.ptr r (off + i.toNat * 2) ver) else none := ixa_sl slz87 ..
@[simp] theorem ixap87 (r off len ver : Nat) (k : IntKind) (i : Int) : aIndexAddr Tryd.prog 87 (.part r off len ver 2) (.int k i) = if 0 ≤ i ∧ i < len then some (.ptr r (off + i.toNat * 2) ver) else none := ixa_part slz87 ..
theorem zt87 : zeroT Tryd.prog 87 = some [.slice none 0 0 0 1 false] := by kernel_rfl
@[simp] theorem ld105 (H : AH) (r off ver : Nat) : loadV Tryd.prog 105 H (.ptr r off ver) = ld H r off ver := ld_sc (by kernel_rfl) ..
theorem sc105 : scal Tryd.prog 105 = true := by kernel_rfl
@[simp] theorem ld107 (H : AH) (r off ver : Nat) : loadV Tryd.prog 107 H (.ptr r off ver) = ld H r off ver := ld_sc (by kernel_rfl) ..
theorem sc107 : scal Tryd.prog 107 = true := by kernel_rfl
theorem ag110 : aggSz Tryd.prog 110 = some 2 := by kernel_rfl
@[simp] theorem ld110 (H : AH) (r off ver : Nat) : loadV Tryd.prog 110 H (.ptr r off ver) = (ldn H r ver 2 off).map .agg := load_agg ag110 ..
@[simp] theorem fa110_0 (r off ver : Nat) : aFieldAddr Tryd.prog 110 (.ptr r off ver) 0 = some (.ptr r (off + 0) ver) := fld_ptr (by kernel_rfl) ..
@[simp] theorem fa110_1 (r off ver : Nat) : aFieldAddr Tryd.prog 110 (.ptr r off ver) 1 = some (.ptr r (off + 1) ver) := fld_ptr (by kernel_rfl) ..
@[simp] theorem built110 (x0 x1 : Int) : aBuilt Tryd.prog 110 [(0, .int .i64 x0), (1, .int .i64 x1)] = some [.int .i64 x0, .int .i64 x1] := by kernel_rfl
theorem zt110 : zeroT Tryd.prog 110 = some [.int .i64 0, .int .i64 0] := by kernel_rfl
@[simp] theorem ld112 (H : AH) (r off ver : Nat) : loadV Tryd.prog 112 H (.ptr r off ver) = ld H r off ver := ld_sc (by kernel_rfl) ..
theorem sc112 : scal Tryd.prog 112 = true := by kernel_rfl
@[simp] theorem ld116 (H : AH) (r off ver : Nat) : loadV Tryd.prog 116 H (.ptr r off ver) = ld H r off ver := ld_sc (by kernel_rfl) ..
theorem sc116 : scal Tryd.prog 116 = true := by kernel_rfl
@[simp] theorem cv3_62 (k : IntKind) (n : Int) : aConv Tryd.prog 3 62 (.int k n) = some (.int .u64 (IntKind.u64.wrap n)) := cv_int (by kernel_rfl) (by kernel_rfl) n
@[simp] theorem cv3_112 (k : IntKind) (n : Int) : aConv Tryd.prog 3 112 (.int k n) = some (.int .u64 (IntKind.u64.wrap n)) := cv_int (by kernel_rfl) (by kernel_rfl) n
@[simp] theorem cv5_3 (k : IntKind) (n : Int) : aConv Tryd.prog 5 3 (.int k n) = some (.int .i64 (IntKind.i64.wrap n)) := cv_int (by kernel_rfl) (by kernel_rfl) n
@[simp] theorem cv62_3 (k : IntKind) (n : Int) : aConv Tryd.prog 62 3 (.int k n) = some (.int .i64 (IntKind.i64.wrap n)) := cv_int (by kernel_rfl) (by kernel_rfl) n
@[simp] theorem cv62_105 (k : IntKind) (n : Int) : aConv Tryd.prog 62 105 (.int k n) = some (.int .u32 (IntKind.u32.wrap n)) := cv_int (by kernel_rfl) (by kernel_rfl) n
@[simp] theorem cv105_5 (k : IntKind) (n : Int) : aConv Tryd.prog 105 5 (.int k n) = some (.int .u8 (IntKind.u8.wrap n)) := cv_int (by kernel_rfl) (by kernel_rfl) n
@[simp] theorem cv107_5 (k : IntKind) (n : Int) : aConv Tryd.prog 107 5 (.int k n) = some (.int .u8 (IntKind.u8.wrap n)) := cv_int (by kernel_rfl) (by kernel_rfl) n
end Go.Proofs.YticlfkmjmhjiaaaDoor

/- What the steps ask of heaps and spans. -/
namespace Go.Proofs.YticlfkmjmhjiaaaDoor
open Go Go.Proofs.YticlfkmjmhjiaaaDoor.AX
theorem pr121 : pairT Tryd.prog 110 = true := by kernel_rfl
/-- Two cells, written and read. -/
def two (a b : Int) : List AV := [.int .i64 a, .int .i64 b]
theorem put121 (H : AH) (a b : Int) : storeV Tryd.prog 110 (H ++ [.row [.int .i64 0, .int .i64 0] 0 0 false]) (.ptr H.length 0 0) (.agg [.int .i64 a, .int .i64 b]) = some (none, H ++ [.row (two a b) 0 0 false]) := by
  rw [store_agg ag110 (c := [.int .i64 0, .int .i64 0]) (s := 0) (by simp) (by decide) rfl (by simp) rfl (by simp [AV.one])]
  simp [two]
theorem put81 (H : AH) (a b : Int) : storeV Tryd.prog 86 (H ++ [.row [.int .i64 0, .int .i64 0] 0 0 false]) (.ptr H.length 0 0) (.agg [.int .i64 a, .int .i64 b]) = some (none, H ++ [.row (two a b) 0 0 false]) := by
  rw [store_agg ag86 (c := [.int .i64 0, .int .i64 0]) (s := 0) (by simp) (by decide) rfl (by simp) rfl (by simp [AV.one])]
  simp [two]
theorem set121 {H : AH} {w : Nat} {a b c d : Int} {s : Nat} (hw : H[w]? = some (.row (two a b) 0 s false)) : storeV Tryd.prog 110 H (.ptr w 0 0) (.agg [.int .i64 c, .int .i64 d]) = some (none, H.set w (.row (two c d) 0 0 false)) :=
  store_agg ag110 hw (by decide) rfl (by simp [two]) rfl (by simp [AV.one])
theorem ldn_two {H : AH} {w s : Nat} {a b : Int} {ro : Bool} (hw : H[w]? = some (.row (two a b) 0 s ro)) : ldn H w 0 2 0 = some [.int .i64 a, .int .i64 b] := by
  rw [ldn_row hw]; rfl
theorem ld_two0 {H : AH} {w s : Nat} {a b : Int} {ro : Bool} (hw : H[w]? = some (.row (two a b) 0 s ro)) : ld H w 0 0 = some (.int .i64 a) := by
  rw [ld_row hw]; rfl
theorem ld_two1 {H : AH} {w s : Nat} {a b : Int} {ro : Bool} (hw : H[w]? = some (.row (two a b) 0 s ro)) : ld H w 1 0 = some (.int .i64 b) := by
  rw [ld_row hw]; rfl
/-- Heaps. -/
def cells (l : List (Int × Int)) : List (List AV) := l.map fun h => two h.1 h.2
@[simp] theorem cells_length (l : List (Int × Int)) : (cells l).length = l.length := by simp [cells]
def Hs (H : AH) (v : AV) (l : List (Int × Int)) : Prop := Rs 2 H v (cells l)
theorem Hs.ext {H H1 : AH} {v : AV} {l : List (Int × Int)} (h : Hs H v l) (hE : Ext H H1) : Hs H1 v l := Rs.ext h hE
theorem Hs.read {H : AH} {v : AV} {l : List (Int × Int)} (h : Hs H v l) : ∃ r off ver sz full, v = .slice r off l.length ver sz full ∧ ∀ i (hi : i < l.length), ∃ r', r = some r' ∧ sz = 2 ∧ ldn H r' ver 2 (off + i * 2) = some [.int .i64 l[i].1, .int .i64 l[i].2] := by
  obtain ⟨r, off, ver, sz, full, rfl, hl⟩ := h
  refine ⟨r, off, ver, sz, full, by simp, fun i hi => ?_⟩
  obtain ⟨r', h1, h2, h3⟩ := hl i (by simpa using hi)
  exact ⟨r', h1, h2, by simpa [cells, two] using h3⟩
end Go.Proofs.YticlfkmjmhjiaaaDoor

/- Spans: how many heaps lie in them, the next one, the first crowded one, and whether there is a plan. -/
namespace Go.Proofs.YticlfkmjmhjiaaaDoor
open Go Go.Proofs.YticlfkmjmhjiaaaDoor.AX

def inS (a b : Int) (h : Int × Int) : Bool := decide (a ≤ h.1) && decide (h.2 ≤ b)
def holdsS (a b : Int) (l : List (Int × Int)) : Nat := l.countP (inS a b)
theorem countP_take_succ {α : Type} (p : α → Bool) (l : List α) {i : Nat} (hi : i < l.length) : (l.take (i + 1)).countP p = (l.take i).countP p + if p l[i] = true then 1 else 0 := by
  rw [List.take_succ_eq_append_getElem hi, List.countP_append]
  simp [List.countP_cons]
set_option maxRecDepth 100000 in
theorem holds_ac (a b : Int) (v : AV) (l : List (Int × Int)) (H : AH) (Q : AV → AH → Prop) (hl : l.length ≤ 1000000) (hv : Hs H v l) (h : ∀ H', Ext H H' → Q (.int .i64 (holdsS a b l : Nat)) H') :
    AC Tryd.prog 81 [.agg [.int .i64 a, .int .i64 b], v] H Q := by
  obtain ⟨r, off, ver, sz, full, rfl, hld⟩ := hv.read
  refine L_body 30 Tryd.func81 rfl rfl ?_
  refine L_reg [1, 2] (fun K hK => ?_)
  simp [AV.isU, acells]
  apply hK; clear hK K
  have hbox : (H ++ [AObj.row (two a b) 0 0 false])[H.length]? = some (.row (two a b) 0 0 false) := by simp
  have hE0 : Ext H (H ++ [AObj.row (two a b) 0 0 false]) := .push _ _
  simp only [two] at hbox hE0
  generalize H ++ [AObj.row [AV.int IntKind.i64 a, AV.int IntKind.i64 b] 0 0 false] = H1 at hbox hE0 ⊢
  generalize H.length = w at hbox ⊢
  refine L_reg [1, 2, 5] (fun K hK => ?_)
  simp
  apply hK; clear hK K
  refine L_reg [2, 5, 8, 9, 10] (fun K hK => ?_)
  simp
  apply hK; clear hK K
  refine L_block (L_loopV [5, 10] (fun k vs H' => ∃ i : Nat, k = l.length - i ∧ i ≤ l.length ∧ vs = [.int .i64 ((l.take i).countP (inS a b) : Nat), .int .i64 i] ∧ Ext H1 H') _ [.int .i64 (0 : Nat), .int .i64 (0 : Nat)] rfl ⟨0, rfl, by omega, by simp, .refl _⟩ ?_)
  rintro k _ H2 ⟨i, rfl, hi, rfl, hE⟩
  have hcl : (l.take i).countP (inS a b) ≤ i := Nat.le_trans List.countP_le_length (by simp; omega)
  refine L_reg [2, 5, 8, 9, 10, 11] (fun K hK => ?_)
  simp
  apply hK; clear hK K
  refine L_dec (i < l.length) (by simp) (fun hlt => ?_) (fun hge => L_exit ?_)
  · obtain ⟨r', rfl, rfl, hrd⟩ := hld i hlt
    have hrd := ldn_ext (hE0.trans hE) hrd
    have hsucc := countP_take_succ (inS a b) l hlt
    generalize l[i] = x at hrd hsucc
    obtain ⟨c, d⟩ := x
    refine L_block ?_
    refine L_reg [2, 5, 7, 8, 9, 10] (fun K hK => ?_)
    simp [hlt, hrd, alloc_z zt86, put81]
    apply hK; clear hK K
    have hbx : (H2 ++ [AObj.row (two c d) 0 0 false])[H2.length]? = some (.row (two c d) 0 0 false) := by simp
    have hE1 : Ext H2 (H2 ++ [AObj.row (two c d) 0 0 false]) := .push _ _
    generalize H2 ++ [AObj.row (two c d) 0 0 false] = H3 at hbx hE1 ⊢
    generalize H2.length = u at hbx ⊢
    have hw3 := hE1.row (hE.row hbox)
    have e1 := ld_two0 hw3
    have e2 := ld_two1 hw3
    have e3 := ld_two0 hbx
    have e4 := ld_two1 hbx
    have hE3 := hE.trans hE1
    by_cases hac : a ≤ c
    · refine L_reg [2, 5, 8, 9, 10, 25] (fun K hK => ?_)
      simp [e1, e2, e3, e4, pickV, hac]
      apply hK; clear hK K
      refine L_dec (d ≤ b) (by simp) (fun hdb => ?_) (fun hdb => ?_)
      · have hin : inS a b (c, d) = true := by simp [inS, hac, hdb]
        rw [if_pos hin] at hsucc
        refine L_reg [2, 5, 8, 9, 10] (fun K hK => ?_)
        simp [wrap_i64 (a := ((List.countP (inS a b) (List.take i l) : Nat) : Int) + 1) (by omega)]
        apply hK; clear hK K
        refine L_reg [2, 5, 8, 9, 10] (fun K hK => ?_)
        simp [wrap_i64 (a := (i : Int) + 1) (by omega)]
        apply hK; clear hK K
        exact ⟨l.length - (i + 1), [.int .i64 ((l.take (i + 1)).countP (inS a b) : Nat), .int .i64 (i + 1 : Nat)], by omega, by simp [hsucc], i + 1, rfl, by omega, rfl, hE3⟩
      · have hin : inS a b (c, d) = false := by simp [inS, hdb]
        rw [if_neg (by rw [hin]; decide)] at hsucc
        refine L_reg [2, 5, 8, 9, 10] (fun K hK => ?_)
        simp [wrap_i64 (a := (i : Int) + 1) (by omega)]
        apply hK; clear hK K
        exact ⟨l.length - (i + 1), [.int .i64 ((l.take (i + 1)).countP (inS a b) : Nat), .int .i64 (i + 1 : Nat)], by omega, by simp [hsucc], i + 1, rfl, by omega, rfl, hE3⟩
    · refine L_reg [2, 5, 8, 9, 10, 25] (fun K hK => ?_)
      simp [e1, e3, pickV, hac]
      apply hK; clear hK K
      refine L_false (by simp) ?_
      have hin : inS a b (c, d) = false := by simp [inS, hac]
      rw [if_neg (by rw [hin]; decide)] at hsucc
      refine L_reg [2, 5, 8, 9, 10] (fun K hK => ?_)
      simp [wrap_i64 (a := (i : Int) + 1) (by omega)]
      apply hK; clear hK K
      exact ⟨l.length - (i + 1), [.int .i64 ((l.take (i + 1)).countP (inS a b) : Nat), .int .i64 (i + 1 : Nat)], by omega, by simp [hsucc], i + 1, rfl, by omega, rfl, hE3⟩
  · have : i = l.length := by omega
    subst this
    refine L_reg [4] (fun K hK => ?_)
    simp
    apply hK; clear hK K
    exact L_ret ⟨.inr rfl, _, rfl, by simpa [holdsS] using h _ (hE0.trans hE)⟩
/-- The span that follows. -/
def nextS (a b : Int) : Int × Int := if b < 23 then (a, b + 1) else (a + 1, a + 1)
set_option maxRecDepth 100000 in
theorem next_acH (a b : Int) (H : AH) (Q : AV → AH → Prop) (ha : -1000 ≤ a ∧ a ≤ 1000) (hb : b ≤ 1000 ∧ -1000 ≤ b) (h : ∀ H', Ext H H' → Q (.agg [.int .i64 (nextS a b).1, .int .i64 (nextS a b).2]) H') : AC Tryd.prog 78 [.agg [.int .i64 a, .int .i64 b]] H Q := by
  obtain ⟨I, hI, hz⟩ := zeroT_some zt110
  refine L_body 19 Tryd.func78 rfl rfl ?_
  refine L_reg [1, 2] (fun K hK => ?_)
  simp [AV.isU, acells, hI, hz]
  apply hK; clear hK K
  have hE : Ext H (H ++ [AObj.row (two a b) 0 0 false, AObj.row (two 0 0) 0 0 false]) := .push _ _
  have h1 : (H ++ [AObj.row (two a b) 0 0 false, AObj.row (two 0 0) 0 0 false])[H.length]? = some (.row (two a b) 0 0 false) := by simp
  have h2 : (H ++ [AObj.row (two a b) 0 0 false, AObj.row (two 0 0) 0 0 false])[H.length + 1]? = some (.row (two 0 0) 0 0 false) := by simp
  simp only [two] at hE h1 h2
  generalize H ++ [AObj.row [AV.int IntKind.i64 a, AV.int IntKind.i64 b] 0 0 false, AObj.row [AV.int IntKind.i64 0, AV.int IntKind.i64 0] 0 0 false] = H1 at hE h1 h2 ⊢
  have e0 := ld_two0 h1
  have e1 := ld_two1 h1
  refine L_reg [1, 2, 5] (fun K hK => ?_)
  simp [e1]
  apply hK; clear hK K
  refine L_dec (b < 23) (by simp) (fun hlt => ?_) (fun hge => ?_)
  · rw [nextS, if_pos hlt] at h
    have hs := set121 (c := a) (d := b + 1) h2
    refine L_reg [2] (fun K hK => ?_)
    simp [e0, e1, wrap_i64 (a := b + 1) (by omega), hs]
    apply hK; clear hK K
    refine L_ret ⟨.inr rfl, _, res_cell rfl ?_, h _ (hE.set _ (by omega))⟩
    simp [ldn_two (get_set h2)]
  · rw [nextS, if_neg hge] at h
    have hs := set121 (c := a + 1) (d := a + 1) h2
    refine L_reg [2] (fun K hK => ?_)
    simp [e0, wrap_i64 (a := a + 1) (by omega), hs]
    apply hK; clear hK K
    refine L_ret ⟨.inr rfl, _, res_cell rfl ?_, h _ (hE.set _ (by omega))⟩
    simp [ldn_two (get_set h2)]
theorem holds_q (a b : Int) (v : AV) (l : List (Int × Int)) (H : AH) (hl : l.length ≤ 1000000) (hv : Hs H v l) (Q : AV → AH → Prop) (h : Q (.int .i64 (holdsS a b l : Nat)) H) : AC Tryd.prog 81 [.agg [.int .i64 a, .int .i64 b], v] H Q :=
  AC.quiet (belB_int _ _ _ _) (fun Q h => holds_ac a b v l H Q hl hv h) Q h
theorem next_q (a b : Int) (H : AH) (ha : -1000 ≤ a ∧ a ≤ 1000) (hb : b ≤ 1000 ∧ -1000 ≤ b) (Q : AV → AH → Prop) (h : Q (.agg [.int .i64 (nextS a b).1, .int .i64 (nextS a b).2]) H) : AC Tryd.prog 78 [.agg [.int .i64 a, .int .i64 b]] H Q :=
  AC.quiet (belB_two _ _ _ _ _ _) (fun Q h => next_acH a b H Q ha hb h) Q h
def crowdedS (a b k : Int) (l : List (Int × Int)) : Bool := decide ((b - a + 1) * k < (holdsS a b l : Nat))
set_option maxRecDepth 100000 in
theorem crowded_ac (a b k : Int) (v : AV) (l : List (Int × Int)) (H : AH) (Q : AV → AH → Prop) (hl : l.length ≤ 1000000) (hv : Hs H v l) (ha : 0 ≤ a ∧ a ≤ 100) (hb : 0 ≤ b ∧ b ≤ 100) (hk : 0 ≤ k ∧ k ≤ 1000)
    (h : ∀ H', Ext H H' → Q (.bool (crowdedS a b k l)) H') : AC Tryd.prog 77 [.agg [.int .i64 a, .int .i64 b], v, .int .i64 k] H Q := by
  refine L_body 19 Tryd.func77 rfl rfl ?_
  refine L_reg [1, 2, 3] (fun K hK => ?_)
  simp [AV.isU, acells]
  apply hK; clear hK K
  have hE : Ext H (H ++ [AObj.row (two a b) 0 0 false]) := .push _ _
  have h1 : (H ++ [AObj.row (two a b) 0 0 false])[H.length]? = some (.row (two a b) 0 0 false) := by simp
  simp only [two] at hE h1
  generalize H ++ [AObj.row [AV.int IntKind.i64 a, AV.int IntKind.i64 b] 0 0 false] = H1 at hE h1 ⊢
  generalize H.length = w at h1 ⊢
  have e0 := ld_two0 h1
  have e1 := ld_two1 h1
  have e2 := ldn_two h1
  have hm1 : (b - a + 1) * k ≤ 101 * 1000 := Int.le_trans (Int.mul_le_mul_of_nonneg_right (show b - a + 1 ≤ 101 by omega) hk.1) (Int.mul_le_mul_of_nonneg_left hk.2 (by decide))
  have hm2 : -100 * 1000 ≤ (b - a + 1) * k := Int.le_trans (by
    have := Int.mul_le_mul_of_nonneg_left hk.2 (show (0 : Int) ≤ 100 by decide)
    omega) (Int.mul_le_mul_of_nonneg_right (show -100 ≤ b - a + 1 by omega) hk.1)
  refine L_regY mixed [6] (by kernel_rfl) (fun K hK => ?_)
  simp [e2, okFn_low]
  refine exX_mk (fun Q hQ => holds_q a b v l H1 hl (hv.ext hE) Q hQ) (.refl _) ?_
  simp [e0, e1, wrap_i64 (a := b - a) (by omega), wrap_i64 (a := b - a + 1) (by omega), wrap_i64 (a := (b - a + 1) * k) (by omega)]
  apply hK; clear hK K
  exact L_ret ⟨.inr rfl, _, rfl, by simpa [crowdedS] using h _ hE⟩
theorem crowded_q (a b k : Int) (v : AV) (l : List (Int × Int)) (H : AH) (hl : l.length ≤ 1000000) (hv : Hs H v l) (ha : 0 ≤ a ∧ a ≤ 100) (hb : 0 ≤ b ∧ b ≤ 100) (hk : 0 ≤ k ∧ k ≤ 1000) (Q : AV → AH → Prop) (h : Q (.bool (crowdedS a b k l)) H) :
    AC Tryd.prog 77 [.agg [.int .i64 a, .int .i64 b], v, .int .i64 k] H Q :=
  AC.quiet (belB_bool _ _ _) (fun Q h => crowded_ac a b k v l H Q hl hv ha hb hk h) Q h
/-- What the package's variable holds. -/
def gs : List (Nat × List AV) := [(0, [.int .i64 24, .int .i64 24])]
theorem gs_load {H : AH} (hg : HasG gs H) : loadV Tryd.prog 110 H (.gptr 0 0) = some (.agg [.int .i64 24, .int .i64 24]) := by
  have : gfind H 0 = some [.int .i64 24, .int .i64 24] := (hg (0, [.int .i64 24, .int .i64 24]) (by simp [gs])).1
  rw [load_gagg ag110, this]
  rfl
def fcS (k : Int) (l : List (Int × Int)) : Nat → Int → Int → Int × Int
  | 0, a, b => (a, b)
  | n + 1, a, b => if ((a == 24 && b == 24) || crowdedS a b k l) = true then (a, b) else fcS k l n (nextS a b).1 (nextS a b).2
def spanM (a b : Int) : Nat := ((24 - a) * 24 + (24 - b)).toNat
/-- A span within the day, or the one behind the last. -/
def okSpan (a b : Int) : Prop := (0 ≤ a ∧ a ≤ b ∧ b ≤ 23) ∨ (a = 24 ∧ b = 24)
theorem next_ok {a b : Int} (h : 0 ≤ a ∧ a ≤ b ∧ b ≤ 23) : okSpan (nextS a b).1 (nextS a b).2 ∧ spanM (nextS a b).1 (nextS a b).2 < spanM a b := by
  unfold nextS okSpan spanM
  split
  · exact ⟨.inl ⟨h.1, by omega, by omega⟩, by omega⟩
  · refine ⟨?_, by omega⟩
    by_cases h24 : a = 23
    · right; omega
    · left; omega
def firstS (k : Int) (l : List (Int × Int)) : Int × Int := fcS k l 601 0 0
set_option maxRecDepth 100000 in
theorem firstCrowded_ac (k : Int) (v : AV) (l : List (Int × Int)) (H : AH) (Q : AV → AH → Prop) (hl : l.length ≤ 1000000) (hv : Hs H v l) (hk : 0 ≤ k ∧ k ≤ 1000) (hg : HasG gs H)
    (h : ∀ H', Ext H H' → Q (.agg [.int .i64 (firstS k l).1, .int .i64 (firstS k l).2]) H') : AC Tryd.prog 70 [v, .int .i64 k] H Q := by
  obtain ⟨I, hI, hz⟩ := zeroT_some zt110
  refine L_body 20 Tryd.func70 rfl rfl ?_
  refine L_reg [0, 1, 4] (fun K hK => ?_)
  simp [hI, hz]
  apply hK; clear hK K
  have hE0 : Ext H (H ++ [AObj.row (two 0 0) 0 0 false]) := .push _ _
  have h0 : (H ++ [AObj.row (two 0 0) 0 0 false])[H.length]? = some (.row (two 0 0) 0 0 false) := by simp
  have hlt0 : H.length < (H ++ [AObj.row (two 0 0) 0 0 false]).length := by simp
  simp only [two] at hE0 h0 hlt0
  generalize H ++ [AObj.row [AV.int IntKind.i64 0, AV.int IntKind.i64 0] 0 0 false] = H1 at hE0 h0 hlt0 ⊢
  generalize hw0 : H.length = w0 at h0 hlt0 ⊢
  refine L_reg [0, 1, 4, 5] (fun K hK => ?_)
  simp [hI, hz, put121]
  apply hK; clear hK K
  have hE1 : Ext H1 (H1 ++ [AObj.row (two 0 0) 0 0 false]) := .push _ _
  have h1 : (H1 ++ [AObj.row (two 0 0) 0 0 false])[H1.length]? = some (.row (two 0 0) 0 0 false) := by simp
  generalize H1 ++ [AObj.row (two 0 0) 0 0 false] = H2 at hE1 h1 ⊢
  generalize hw1 : H1.length = w1 at h1 hlt0 ⊢
  have hE2 := hE0.trans hE1
  have h02 := hE1.row h0
  refine L_block (L_loopV [] (fun m vs H' => ∃ (a b : Int) (n : Nat), m = spanM a b ∧ okSpan a b ∧ spanM a b < n ∧ firstS k l = fcS k l n a b ∧ vs = [] ∧ Ext H H' ∧ H'[w0]? = some (.row (two 0 0) 0 0 false) ∧ H'[w1]? = some (.row (two a b) 0 0 false)) _ [] rfl
    ⟨0, 0, 601, rfl, .inl (by omega), by decide, rfl, rfl, hE2, h02, h1⟩ ?_)
  rintro m _ H3 ⟨a, b, n, rfl, hab, hn, hfc, rfl, hE, h03, h13⟩
  have hab' : 0 ≤ a ∧ a ≤ 24 ∧ 0 ≤ b ∧ b ≤ 24 := by rcases hab with h | h <;> omega
  have e1 := ldn_two h13
  have eg := gs_load (hg.ext hE)
  cases n with
  | zero => omega
  | succ n =>
  have hstep : firstS k l = if ((a == 24 && b == 24) || crowdedS a b k l) = true then (a, b) else fcS k l n (nextS a b).1 (nextS a b).2 := hfc
  by_cases hp : a = 24 ∧ b = 24
  · obtain ⟨rfl, rfl⟩ := hp
    refine L_reg [0, 1, 4, 5, 16] (fun K hK => ?_)
    simp [e1, eg, b_neP pr121, pickV]
    apply hK; clear hK K
    refine L_false (by simp) (L_exit ?_)
    simp at hstep
    have hst := set121 (c := 24) (d := 24) h03
    refine L_reg [4] (fun K hK => ?_)
    simp [e1, hst]
    apply hK; clear hK K
    refine L_ret ⟨.inr rfl, _, res_cell rfl ?_, h _ (hE.set _ (by omega))⟩
    rw [hstep]
    simp [ldn_two (get_set h03)]
  · have hne : (a == 24 && b == 24) = false := by
      rw [Bool.and_eq_false_iff]
      by_cases ha : a = 24
      · right; simp; omega
      · left; simp [ha]
    have hnn : (a == (24 : Int) && b == 24) = false := hne
    rw [hne, Bool.false_or] at hstep
    refine L_reg [0, 1, 4, 5, 16] (fun K hK => ?_)
    simp [e1, eg, b_neP pr121, hne, okFn_low]
    refine crowded_q a b k v l H3 hl (hv.ext hE) (by omega) (by omega) hk _ ?_
    simp [pickV]
    apply hK; clear hK K
    cases hc : crowdedS a b k l with
    | true =>
      rw [hc] at hstep
      refine L_false (by simp) (L_exit ?_)
      simp at hstep
      have hst := set121 (c := a) (d := b) h03
      refine L_reg [4] (fun K hK => ?_)
      simp [e1, hst]
      apply hK; clear hK K
      refine L_ret ⟨.inr rfl, _, res_cell rfl ?_, h _ (hE.set _ (by omega))⟩
      rw [hstep]
      simp [ldn_two (get_set h03)]
    | false =>
      rw [hc] at hstep
      simp only [Bool.false_eq_true, if_false] at hstep
      have hin : 0 ≤ a ∧ a ≤ b ∧ b ≤ 23 := by
        rcases hab with h | h
        · exact h
        · exact absurd h hp
      obtain ⟨g1, g2⟩ := next_ok hin
      refine L_true (by simp) (L_block ?_)
      have hst := set121 (c := (nextS a b).1) (d := (nextS a b).2) h13
      refine L_reg [0, 1, 4, 5] (fun K hK => ?_)
      simp [e1, okFn_low]
      refine next_q a b H3 (by omega) (by omega) _ ?_
      simp [hst]
      apply hK; clear hK K
      refine ⟨spanM (nextS a b).1 (nextS a b).2, [], g2, by simp, _, _, n, rfl, g1, by omega, hstep, rfl, hE.set _ (by omega), ?_, get_set h13⟩
      rw [List.getElem?_set_ne (by omega)]; exact h03
theorem firstCrowded_q (k : Int) (v : AV) (l : List (Int × Int)) (H : AH) (hl : l.length ≤ 1000000) (hv : Hs H v l) (hk : 0 ≤ k ∧ k ≤ 1000) (hg : HasG gs H) (Q : AV → AH → Prop) (h : Q (.agg [.int .i64 (firstS k l).1, .int .i64 (firstS k l).2]) H) :
    AC Tryd.prog 70 [v, .int .i64 k] H Q := AC.quiet (belB_two _ _ _ _ _ _) (fun Q h => firstCrowded_ac k v l H Q hl hv hk hg h) Q h
/-- Whether there is a plan, as the program asks it. -/
def possS (k : Int) (l : List (Int × Int)) : Bool := (firstS k l).1 == 24 && (firstS k l).2 == 24
theorem possible_ac (k : Int) (v : AV) (l : List (Int × Int)) (H : AH) (Q : AV → AH → Prop) (hl : l.length ≤ 1000000) (hv : Hs H v l) (hk : 0 ≤ k ∧ k ≤ 1000) (hg : HasG gs H) (h : Q (.bool (possS k l)) H) : AC Tryd.prog 55 [v, .int .i64 k] H Q := by
  refine L_body 10 Tryd.func55 rfl rfl ?_
  refine L_reg [0, 1] (fun K hK => ?_)
  simp
  apply hK; clear hK K
  have eg := gs_load hg
  refine L_regY mixed [4] (by kernel_rfl) (fun K hK => ?_)
  simp [okFn_low]
  refine exX_mk (fun Q hQ => firstCrowded_q k v l H hl hv hk hg Q hQ) (.refl _) ?_
  simp [eg, b_eqP pr121]
  apply hK; clear hK K
  exact L_ret ⟨.inr rfl, _, rfl, by simpa [possS] using h⟩
end Go.Proofs.YticlfkmjmhjiaaaDoor

/- Whether there is a plan: no span is crowded; a quick reckoning; the examples that each law ends with. -/
namespace Go.Proofs.YticlfkmjmhjiaaaDoor
open Go Go.Proofs.YticlfkmjmhjiaaaDoor.AX

theorem fcS_iff (k : Int) (l : List (Int × Int)) : ∀ (n : Nat) (a b : Int), okSpan a b → spanM a b < n →
    (fcS k l n a b = (24, 24) ↔ ∀ a' b' : Int, 0 ≤ a' → a' ≤ b' → b' ≤ 23 → (a < a' ∨ a = a' ∧ b ≤ b') → crowdedS a' b' k l = false)
  | 0, a, b, _, h => by omega
  | n + 1, a, b, hab, hn => by
    unfold fcS
    rcases hab with hin | ⟨rfl, rfl⟩
    · have hne : (a == 24 && b == 24) = false := by
        rw [Bool.and_eq_false_iff]; left; simp; omega
      rw [hne, Bool.false_or]
      obtain ⟨g1, g2⟩ := next_ok hin
      cases hc : crowdedS a b k l with
      | true =>
        rw [if_pos rfl]
        constructor
        · intro h; cases h; omega
        · intro h
          have := h a b hin.1 hin.2.1 hin.2.2 (.inr ⟨rfl, by omega⟩)
          rw [hc] at this; cases this
      | false =>
        rw [if_neg (by decide), fcS_iff k l n _ _ g1 (by omega)]
        constructor
        · intro h a' b' h1 h2 h3 h4
          by_cases he : a' = a ∧ b' = b
          · rw [he.1, he.2]; exact hc
          · refine h a' b' h1 h2 h3 ?_
            unfold nextS
            split
            · rcases h4 with h4 | h4
              · exact .inl h4
              · exact .inr ⟨h4.1, by simp only; omega⟩
            · simp only; omega
        · intro h a' b' h1 h2 h3 h4
          refine h a' b' h1 h2 h3 ?_
          unfold nextS at h4
          split at h4
          · simp only at h4; omega
          · simp only at h4; omega
    · simp
      intro a' b' h1 h2 h3 h4
      omega
theorem possS_iff (k : Int) (l : List (Int × Int)) : possS k l = true ↔ ∀ a b : Int, 0 ≤ a → a ≤ b → b ≤ 23 → crowdedS a b k l = false := by
  have h := fcS_iff k l 601 0 0 (.inl (by omega)) (by decide)
  have e : possS k l = true ↔ firstS k l = (24, 24) := by
    unfold possS
    rw [Bool.and_eq_true, beq_iff_eq, beq_iff_eq]
    constructor
    · rintro ⟨h1, h2⟩; rw [← h1]; exact Prod.ext rfl (by simp [h1, h2])
    · intro h; rw [h]; exact ⟨rfl, rfl⟩
  rw [e]
  refine h.trans ⟨fun g a b h1 h2 h3 => g a b h1 h2 h3 (by omega), fun g a b h1 h2 h3 _ => g a b h1 h2 h3⟩
/-! ### A quick reckoning -/
noncomputable def cntNH (a b : Nat) (l : List (Nat × Nat)) : Nat := List.rec 0 (fun h _ ih => bif Nat.ble a h.1 then bif Nat.ble h.2 b then Nat.succ ih else ih else ih) l
def natL (l : List (Nat × Nat)) : List (Int × Int) := l.map fun h => ((h.1 : Int), (h.2 : Int))
theorem cntN_eq (a b : Nat) : ∀ l : List (Nat × Nat), cntNH a b l = holdsS a b (natL l)
  | [] => rfl
  | h :: l => by
    have ih := cntN_eq a b l
    have e : cntNH a b (h :: l) = bif Nat.ble a h.1 then bif Nat.ble h.2 b then Nat.succ (cntNH a b l) else cntNH a b l else cntNH a b l := rfl
    rw [e, ih]
    simp only [holdsS, natL, List.map_cons, List.countP_cons, inS]
    by_cases h1 : a ≤ h.1
    · rw [Nat.ble_eq_true_of_le h1]
      by_cases h2 : h.2 ≤ b
      · rw [Nat.ble_eq_true_of_le h2]
        simp [Int.ofNat_le.2 h1, Int.ofNat_le.2 h2]
      · have : Nat.ble h.2 b = false := by
          cases hb : Nat.ble h.2 b with
          | false => rfl
          | true => exact absurd (Nat.le_of_ble_eq_true hb) h2
        rw [this]
        simp [h2]
    · have : Nat.ble a h.1 = false := by
        cases hb : Nat.ble a h.1 with
        | false => rfl
        | true => exact absurd (Nat.le_of_ble_eq_true hb) h1
      rw [this]
      simp [h1]
noncomputable def possN (k : Nat) (l : List (Nat × Nat)) : Bool := (List.range 24).all fun a => (List.range 24).all fun b => bif Nat.ble a b then Nat.ble (cntNH a b l) (Nat.mul (Nat.sub (Nat.succ b) a) k) else true
theorem possN_eq (k : Nat) (l : List (Nat × Nat)) : possN k l = possS k (natL l) := by
  rw [Bool.eq_iff_iff, possS_iff]
  unfold possN
  simp only [List.all_eq_true, List.mem_range]
  have hmul : ∀ a b : Nat, a ≤ b → ((b : Int) - a + 1) * (k : Int) = ((b + 1 - a) * k : Nat) := by
    intro a b hab
    rw [Int.natCast_mul]; congr 1; omega
  constructor
  · intro h a b h1 h2 h3
    obtain ⟨a, rfl⟩ := Int.eq_ofNat_of_zero_le h1
    obtain ⟨b, rfl⟩ := Int.eq_ofNat_of_zero_le (by omega : 0 ≤ b)
    have := h a (by omega) b (by omega)
    rw [Nat.ble_eq_true_of_le (by omega), cond_true] at this
    have := Nat.le_of_ble_eq_true this
    rw [cntN_eq] at this
    unfold crowdedS
    rw [hmul a b (by omega)]
    simp only [decide_eq_false_iff_not, Int.not_lt]
    exact Int.ofNat_le.2 this
  · intro h a ha b hb
    cases hab : Nat.ble a b with
    | false => rfl
    | true =>
      have hab := Nat.le_of_ble_eq_true hab
      have := h a b (by omega) (by omega) (by omega)
      unfold crowdedS at this
      rw [hmul a b hab, decide_eq_false_iff_not, Int.not_lt] at this
      rw [cond_true, cntN_eq]
      exact Nat.ble_eq_true_of_le (Int.ofNat_le.1 this)
noncomputable def crowdedN (a b k : Nat) (l : List (Nat × Nat)) : Bool := !(Nat.ble (cntNH a b l) (Nat.mul (Nat.sub (Nat.succ b) a) k))
theorem crowdedN_eq {a b : Nat} (hab : a ≤ b) (k : Nat) (l : List (Nat × Nat)) : crowdedN a b k l = crowdedS a b k (natL l) := by
  have hmul : ((b : Int) - a + 1) * (k : Int) = ((b + 1 - a) * k : Nat) := by
    rw [Int.natCast_mul]; congr 1; omega
  unfold crowdedN crowdedS
  rw [hmul, cntN_eq]
  cases hb : Nat.ble (holdsS a b (natL l)) (Nat.mul (Nat.sub (Nat.succ b) a) k) with
  | true =>
    have := Nat.le_of_ble_eq_true hb
    symm
    simp only [Bool.not_true, decide_eq_false_iff_not, Int.not_lt]
    exact Int.ofNat_le.2 this
  | false =>
    symm
    simp only [Bool.not_false, decide_eq_true_eq]
    refine Int.ofNat_lt.2 (Nat.lt_of_not_le fun h => ?_)
    have : Nat.ble (holdsS a b (natL l)) (Nat.mul (Nat.sub (Nat.succ b) a) k) = true := Nat.ble_eq_true_of_le h
    rw [hb] at this; cases this
noncomputable def fcN (k : Nat) (l : List (Nat × Nat)) (n : Nat) : Nat → Nat → Nat × Nat :=
  Nat.rec (fun a b => (a, b)) (fun _ ih a b => bif (bif Nat.beq a 24 then Nat.beq b 24 else false) then (a, b) else bif crowdedN a b k l then (a, b) else bif Nat.ble b 22 then forceN (Nat.succ b) fun b => ih a b else forceN (Nat.succ a) fun a => ih a a) n
theorem fcN_eq (k : Nat) (l : List (Nat × Nat)) : ∀ (n a b : Nat), a ≤ b → b ≤ 24 → (a = 24 → b = 24) → fcS k (natL l) n a b = (((fcN k l n a b).1 : Int), ((fcN k l n a b).2 : Int))
  | 0, a, b, _, _, _ => rfl
  | n + 1, a, b, hab, hb, h24 => by
    have e : fcN k l (n + 1) a b = bif (bif Nat.beq a 24 then Nat.beq b 24 else false) then (a, b) else bif crowdedN a b k l then (a, b) else bif Nat.ble b 22 then forceN (Nat.succ b) fun b => fcN k l n a b else forceN (Nat.succ a) fun a => fcN k l n a a := rfl
    rw [e]
    simp only [forceN_eq]
    unfold fcS
    rw [crowdedN_eq hab]
    by_cases hp : a = 24 ∧ b = 24
    · obtain ⟨rfl, rfl⟩ := hp
      simp
    · have e1 : (bif Nat.beq a 24 then Nat.beq b 24 else false) = false := by
        cases h : Nat.beq a 24 with
        | false => rfl
        | true =>
          have := Nat.eq_of_beq_eq_true h
          exact absurd ⟨this, h24 this⟩ hp
      have e2 : ((a : Int) == 24 && (b : Int) == 24) = false := by
        rw [Bool.and_eq_false_iff]; left; simp; omega
      rw [e1, e2, Bool.false_or, cond_false]
      cases hc : crowdedS a b k (natL l) with
      | true => simp
      | false =>
        simp only [Bool.false_eq_true, if_false, cond_false]
        unfold nextS
        by_cases h22 : b ≤ 22
        · rw [Nat.ble_eq_true_of_le h22, cond_true, if_pos (by omega)]
          exact fcN_eq k l n a (b + 1) (by omega) (by omega) (by omega)
        · have : Nat.ble b 22 = false := by
            cases hb : Nat.ble b 22 with
            | false => rfl
            | true => exact absurd (Nat.le_of_ble_eq_true hb) h22
          rw [this, cond_false, if_neg (by omega)]
          exact fcN_eq k l n (a + 1) (a + 1) (by omega) (by omega) (by omega)
theorem firstS_nat (k : Nat) (l : List (Nat × Nat)) : firstS k (natL l) = (((fcN k l 601 0 0).1 : Int), ((fcN k l 601 0 0).2 : Int)) := fcN_eq k l 601 0 0 (by omega) (by omega) (by omega)
end Go.Proofs.YticlfkmjmhjiaaaDoor

/- The rest of a function by the kernel, beside the package variable: for laws whose first steps leave few cases. -/
namespace Go.Proofs.YticlfkmjmhjiaaaDoor
open Go Go.Proofs.YticlfkmjmhjiaaaDoor.AX

section
variable {P : Program}
/-- Statements one after the other, by the quick run. -/
noncomputable def runKL (C : Cx P) (ks : List Nat) (nt n : Nat) (cs : List Code) : Env → AH → Option (Ex × Env × AH) :=
  List.rec (motive := fun _ => Env → AH → Option (Ex × Env × AH)) (fun e H => some (.normal, e, H)) (fun c _ ih e H => match runJ P ks (runZ C n) nt n c e H with
    | some (.normal, e', H') => ih e' H'
    | r => r) cs
theorem runKL_cons (C : Cx P) (ks : List Nat) (nt n : Nat) (c : Code) (cs : List Code) (e : Env) (H : AH) : runKL C ks nt n (c :: cs) e H = match runJ P ks (runZ C n) nt n c e H with
    | some (.normal, e', H') => runKL C ks nt n cs e' H'
    | r => r := rfl
theorem L_kern {C : Cx P} (hC : C.Ok) (ks : List Nat) (n : Nat) {nt : Nat} {Q : Ex → Env → AH → Prop} {r : Ex × Env × AH} (hq : ∀ e2, EqE e2 r.2.1 → Q r.1 e2 r.2.2) : ∀ (cs : List Code) (e0 e : Env) (H : AH), EqE e0 e → runKL C ks nt n cs e H = some r → cs.all codeOrd = true → AWL P nt cs e0 H Q
  | [], e0, e, H, he, h, _ => by
    have h : some (Ex.normal, e, H) = some r := h
    cases h
    exact hq e0 he
  | c :: cs, e0, e, H, he, h, ho => by
    rw [List.all_cons, Bool.and_eq_true] at ho
    rw [runKL_cons] at h
    cases hx : runJ P ks (runZ C n) nt n c e H with
    | none => rw [hx] at h; cases h
    | some t =>
      obtain ⟨x, e', H'⟩ := t
      rw [hx] at h
      have hW := AW.eqE he (runK_sound hC.mixed (runZ_sound hC n).1 (runZ_sound hC n).2 n c _ _ _ _ _ ho.1 (runJ_runK _ _ _ _ _ hx))
      show AW P nt c e0 H _
      refine hW.mono ?_
      rintro x2 e2 H2 ⟨rfl, he2, rfl⟩
      cases x2 with
      | normal => exact L_kern hC ks n hq cs e2 e' _ he2 h ho.2
      | exit i => cases h; exact hq e2 he2
      | goto i => cases h; exact hq e2 he2
      | ret => cases h; exact hq e2 he2
/-- The package variable stands as it stood. -/
def headG : AH → Bool
  | .gvar 0 [.int .i64 (.ofNat 24), .int .i64 (.ofNat 24)] :: _ => true
  | _ => false
theorem headG_ext {H : AH} (h : headG H = true) : Ext (gRows gs) H := by
  unfold headG at h
  split at h
  · rename_i T
    exact Ext.push (gRows gs) T
  · cases h
noncomputable def kernT (C : Cx P) (fn : Func) (ks : List Nat) (nt n : Nat) (cs : List Code) (e : Env) (H : AH) : Bool :=
  match runKL C ks nt n cs e H with
  | some (.normal, e', H') | some (.ret, e', H') => (match aResults P fn e' H' with
    | some (.bool b) => b && headG H'
    | _ => false)
  | _ => false
/-- A law's rest returns true, as the kernel finds. -/
theorem L_kernT {C : Cx P} (hC : C.Ok) (ks : List Nat) (n : Nat) {nt : Nat} {fn : Func} {cs cs0 : List Code} {e : Env} {H : AH} (hc : cs = cs0) (h : kernT C fn ks nt n cs0 e H = true) (ho : cs0.all codeOrd = true) :
    AWL P nt cs e H fun x e' H' => (x = .normal ∨ x = .ret) ∧ ∃ v, aResults P fn e' H' = some v ∧ v = .bool true ∧ Ext (gRows gs) H' := by
  subst hc
  unfold kernT at h
  split at h
  · rename_i e' H' hr
    refine L_kern hC ks n (fun e2 he2 => ⟨.inl rfl, ?_⟩) cs e e H (.refl _) hr ho
    split at h
    · rename_i b hb
      simp only [Bool.and_eq_true] at h
      obtain ⟨rfl, h⟩ := h
      exact ⟨_, by rw [aResults_eqE he2]; exact hb, rfl, headG_ext h⟩
    · cases h
  · rename_i e' H' hr
    refine L_kern hC ks n (fun e2 he2 => ⟨.inr rfl, ?_⟩) cs e e H (.refl _) hr ho
    split at h
    · rename_i b hb
      simp only [Bool.and_eq_true] at h
      obtain ⟨rfl, h⟩ := h
      exact ⟨_, by rw [aResults_eqE he2]; exact hb, rfl, headG_ext h⟩
    · cases h
  · cases h
/-- What holds over the package variable alone holds over all. -/
theorem AC.of_nilG {f : FuncId} {args : List AV} (ha : Bels 0 args) (h : AC P f args (gRows gs) fun u H' => u = .bool true ∧ Ext (gRows gs) H') (H : AH) (hg : HasG gs H) : AC P f args H fun u _ => u = .bool true := by
  have h1 : AC P f args (gRows gs) fun v' H' => v' = .bool true ∧ H' = gRows gs :=
    AC.quiet (v := .bool true) rfl (fun Q hQ => h.mono fun u H' hu => by rw [hu.1]; exact hQ H' hu.2) _ ⟨rfl, rfl⟩
  exact (h1.closedG ha (.bool _) H hg).mono fun v' H' hv => hv.1
end
/-- What is left of a function after its first statements. -/
noncomputable def restOf (fn : Func) (k : Nat) : List Code := match fn.body with | some c => (flat c).drop k | none => []
end Go.Proofs.YticlfkmjmhjiaaaDoor

/- The examples that each law ends with. -/
namespace Go.Proofs.YticlfkmjmhjiaaaDoor
open Go Go.Proofs.YticlfkmjmhjiaaaDoor.AX

/-- Heaps read off their cells. -/
def readN : List AV → Option (List (Nat × Nat))
  | [] => some []
  | .int .i64 (.ofNat a) :: .int .i64 (.ofNat b) :: rest => match readN rest with
    | some l => some ((a, b) :: l)
    | none => none
  | _ => none
theorem readN_get : ∀ {vs : List AV} {l : List (Nat × Nat)}, readN vs = some l → vs.length = l.length * 2 ∧ ∀ i (hi : i < l.length), (vs.drop (i * 2)).take 2 = two l[i].1 l[i].2
  | [], l, h => by
    simp [readN] at h; subst h
    exact ⟨rfl, fun i hi => by simp at hi⟩
  | [_], l, h => by simp [readN] at h
  | x :: y :: rest, l, h => by
    unfold readN at h
    split at h
    case h_1 => rename_i h0; simp at h0
    case h_3 => cases h
    rename_i a b rest' heq
    simp only [List.cons.injEq] at heq
    obtain ⟨rfl, rfl, rfl⟩ := heq
    split at h
    case h_2 => cases h
    rename_i l' hl
    cases h
    obtain ⟨h1, h2⟩ := readN_get hl
    refine ⟨by simp [h1]; omega, fun i hi => ?_⟩
    cases i with
    | zero => simp [two]
    | succ i =>
      have := h2 i (by simpa using hi)
      rw [show (i + 1) * 2 = i * 2 + 1 + 1 by omega, List.drop_succ_cons, List.drop_succ_cons, this]
      simp
/-- Heaps and hands read off a call's arguments. -/
noncomputable def heapsX {α : Type} (args : List AV) (H : AH) (no : α) (k : Nat → List (Nat × Nat) → α) : α :=
  match args with
  | [.slice r off len ver sz _, .int .i64 (.ofNat h)] =>
    bif Nat.ble len 1000 && Nat.ble h 1000 then
      match gfind H 0 with
      | some [.int .i64 (.ofNat 24), .int .i64 (.ofNat 24)] =>
        match r with
        | none => bif Nat.beq len 0 then k h [] else no
        | some r => bif Nat.beq sz 2 then
            match ldn H r ver (len * 2) off with
            | some vs => match readN vs with
              | some l => k h l
              | none => no
            | none => no
          else no
      | _ => no
    else no
  | _ => no
theorem hs_of {H : AH} {r off len ver : Nat} {full : Bool} {vs : List AV} {l : List (Nat × Nat)} (h : ldn H r ver (len * 2) off = some vs) (hl : readN vs = some l) : l.length = len ∧ Hs H (.slice (some r) off len ver 2 full) (natL l) := by
  obtain ⟨h1, h2⟩ := ldn_part h
  obtain ⟨h3, h4⟩ := readN_get hl
  have hlen : l.length = len := by omega
  refine ⟨hlen, some r, off, ver, 2, full, by simp [natL, hlen], fun i hi => ⟨r, rfl, rfl, ?_⟩⟩
  have hi' : i < l.length := by simpa [natL] using hi
  rw [h2 (i * 2) 2 (by omega), h4 i hi']
  simp [cells, natL]
theorem heapsX_ok {α : Type} {args : List AV} {H : AH} {no : Option α} {k : Nat → List (Nat × Nat) → Option α} {r : α} (h : heapsX args H no k = some r) : no = some r ∨
    ∃ v n l, args = [v, .int .i64 (.ofNat n)] ∧ l.length ≤ 1000 ∧ n ≤ 1000 ∧ HasG gs H ∧ Hs H v (natL l) ∧ k n l = some r := by
  unfold heapsX at h
  split at h
  case h_2 => exact .inl h
  rename_i r0 off len ver sz full n
  cases hb : Nat.ble len 1000 && Nat.ble n 1000 with
  | false => rw [hb] at h; exact .inl h
  | true =>
    rw [hb, cond_true] at h
    simp only [Bool.and_eq_true] at hb
    have hl1 := Nat.le_of_ble_eq_true hb.1
    have hk1 := Nat.le_of_ble_eq_true hb.2
    split at h
    case h_2 => exact .inl h
    rename_i hg
    have hG : HasG gs H := by
      intro x hx
      simp only [gs, List.mem_singleton] at hx
      subst hx
      exact ⟨hg, .cons (.int _ _) (.cons (.int _ _) .nil)⟩
    split at h
    · cases h0 : Nat.beq len 0 with
      | false => rw [h0] at h; exact .inl h
      | true =>
        have := Nat.eq_of_beq_eq_true h0
        subst this
        rw [h0, cond_true] at h
        exact .inr ⟨_, n, [], rfl, by simp, hk1, hG, ⟨none, off, ver, sz, full, rfl, fun i hi => by simp [natL] at hi⟩, h⟩
    · rename_i r1
      cases h0 : Nat.beq sz 2 with
      | false => rw [h0] at h; exact .inl h
      | true =>
        have := Nat.eq_of_beq_eq_true h0
        subst this
        rw [h0, cond_true] at h
        split at h
        case h_2 => exact .inl h
        rename_i vs hvs
        split at h
        case h_2 => exact .inl h
        rename_i l hl
        obtain ⟨h1, h2⟩ := hs_of (full := full) hvs hl
        exact .inr ⟨_, n, l, rfl, by omega, hk1, hG, h2, h⟩
noncomputable def possX (args : List AV) (H : AH) : Option (AV × AH) := heapsX args H none fun n l => some (.bool (possN n l), H)
noncomputable def firstX (args : List AV) (H : AH) : Option (AV × AH) := heapsX args H none fun n l => Prod.rec (fun a b => forceN a fun a => forceN b fun b => some (.agg [.int .i64 (.ofNat a), .int .i64 (.ofNat b)], H)) (fcN n l 601 0 0)
theorem possX_ok {args : List AV} {H : AH} {v : AV} {H' : AH} (h : possX args H = some (v, H')) : AC Tryd.prog 55 args H fun v' H2 => v' = v ∧ H2 = H' := by
  rcases heapsX_ok h with h | ⟨u, n, l, rfl, hl, hn, hG, hH, h⟩
  · cases h
  · cases h
    refine possible_ac n u (natL l) H _ (by simp [natL]; omega) hH ⟨Int.natCast_nonneg n, Int.ofNat_le.2 hn⟩ hG ⟨?_, rfl⟩
    rw [possN_eq]
theorem firstX_ok {args : List AV} {H : AH} {v : AV} {H' : AH} (h : firstX args H = some (v, H')) : AC Tryd.prog 70 args H fun v' H2 => v' = v ∧ H2 = H' := by
  rcases heapsX_ok h with h | ⟨u, n, l, rfl, hl, hn, hG, hH, h⟩
  · cases h
  · simp only [forceN_eq] at h
    cases h
    refine firstCrowded_q n u (natL l) H (by simp [natL]; omega) hH ⟨Int.natCast_nonneg n, Int.ofNat_le.2 hn⟩ hG _ ⟨?_, rfl⟩
    rw [firstS_nat]; rfl
theorem cond_some {α : Type} {b : Bool} {x y : Option α} {r : α} (h : (bif b then x else y) = some r) : (b = true ∧ x = some r) ∨ y = some r := by
  cases b with
  | true => exact .inl ⟨rfl, h⟩
  | false => exact .inr h
/-- The context in which plans are reckoned at once. -/
noncomputable def cxp : Cx Tryd.prog where
  good := goodT
  keep := keepT
  ext f args H := bif Nat.beq f 55 then possX args H else bif Nat.beq f 70 then firstX args H else none
theorem cxp_ok : cxp.Ok where
  mixed := cx_ok.mixed
  ord f h := cx_ok.ord f h
  ext f args H v H' h := by
    simp only [cxp] at h
    rcases cond_some h with ⟨e, h⟩ | h
    · have := Nat.eq_of_beq_eq_true e; subst this; exact possX_ok h
    rcases cond_some h with ⟨e, h⟩ | h
    · have := Nat.eq_of_beq_eq_true e; subst this; exact firstX_ok h
    cases h
end Go.Proofs.YticlfkmjmhjiaaaDoor

/- Marks of a circle as wishes: all wrappers of at most eight marks are tried, by the kernel. -/
namespace Go.Proofs.YticlfkmjmhjiaaaDoor
open Go Go.Proofs.YticlfkmjmhjiaaaDoor.AX

set_option maxRecDepth 100000 in
theorem works_run : callN (runZ cxp 3000) 9 [] (gRows gs) = some (.bool true, gRows gs) := by kernel_rfl
theorem works_ac (H : AH) (Q : AV → AH → Prop) (hg : HasG gs H) (h : Q (.bool true) H) : AC Tryd.prog 9 [] H Q := AC_kernG cxp_ok 3000 gs hg works_run .nil (.bool _) h
noncomputable def extT (f : FuncId) (args : List AV) (H : AH) : Option (AV × AH) := match args with
  | [] => bif Nat.beq f 9 then (match gfind H 0 with | some [.int .i64 (.ofNat 24), .int .i64 (.ofNat 24)] => some (.bool true, H) | _ => none) else none
  | _ => none
theorem extT_ok {f : FuncId} {args : List AV} {H : AH} {v : AV} {H' : AH} (h : extT f args H = some (v, H')) : AC Tryd.prog f args H fun v' H2 => v' = v ∧ H2 = H' := by
  unfold extT at h
  split at h
  · rcases cond_some h with ⟨e, hx⟩ | h
    · have := Nat.eq_of_beq_eq_true e
      subst this
      split at hx
      · rename_i hg
        obtain ⟨rfl, rfl⟩ := Prod.mk.inj (Option.some.inj hx)
        refine works_ac _ _ ?_ ⟨rfl, rfl⟩
        intro x hx
        simp only [gs, List.mem_singleton] at hx
        subst hx
        exact ⟨hg, .cons (.int _ _) (.cons (.int _ _) .nil)⟩
      · cases hx
    · cases h
  · cases h
noncomputable def cxz : Cx Tryd.prog where
  good := goodT
  keep := keepT
  ext := extT
theorem cxz_ok : cxz.Ok where
  mixed := cx_ok.mixed
  ord f h := cx_ok.ord f h
  ext _f _args _H _v _H' h := extT_ok h
/-- Three cells. -/
def tri (a b c : Int) : List AV := [.int .i64 a, .int .i64 b, .int .i64 c]
theorem put23 (H : AH) (a b c : Int) : storeV Tryd.prog 23 (H ++ [.row [.int .i64 0, .int .i64 0, .int .i64 0] 0 0 false]) (.ptr H.length 0 0) (.agg [.int .i64 a, .int .i64 b, .int .i64 c]) = some (none, H ++ [.row (tri a b c) 0 0 false]) := by
  rw [store_agg ag23 (c := [.int .i64 0, .int .i64 0, .int .i64 0]) (s := 0) (by simp) (by decide) rfl (by simp) rfl (by simp [AV.one])]
  simp [tri]
theorem put23' (H : AH) (a b c : Int) : storeV Tryd.prog 23 (H ++ [.row [.int .i64 0, .int .i64 0, .int .i64 0] 0 0 false]) (.ptr H.length 0 0) (.agg (tri a b c)) = some (none, H ++ [.row (tri a b c) 0 0 false]) := put23 H a b c
theorem bw23 (a : Int) : aBuilt Tryd.prog 23 [(0, .int .i64 a)] = some (tri a 0 0) := by kernel_rfl
theorem set23 {H : AH} {w s : Nat} {a b c x y z : Int} (hw : H[w]? = some (.row (tri a b c) 0 s false)) : storeV Tryd.prog 23 H (.ptr w 0 0) (.agg [.int .i64 x, .int .i64 y, .int .i64 z]) = some (none, H.set w (.row (tri x y z) 0 0 false)) :=
  store_agg ag23 hw (by decide) rfl (by simp [tri]) rfl (by simp [AV.one])
theorem ldn_tri {H : AH} {w s : Nat} {a b c : Int} {ro : Bool} (hw : H[w]? = some (.row (tri a b c) 0 s ro)) : ldn H w 0 3 0 = some [.int .i64 a, .int .i64 b, .int .i64 c] := by
  rw [ldn_row hw]; rfl
theorem ld_tri0 {H : AH} {w s : Nat} {a b c : Int} {ro : Bool} (hw : H[w]? = some (.row (tri a b c) 0 s ro)) : ld H w 0 0 = some (.int .i64 a) := by
  rw [ld_row hw]; rfl
theorem ld_tri1 {H : AH} {w s : Nat} {a b c : Int} {ro : Bool} (hw : H[w]? = some (.row (tri a b c) 0 s ro)) : ld H w 1 0 = some (.int .i64 b) := by
  rw [ld_row hw]; rfl
theorem st_tri1 {H : AH} {w s : Nat} {a b c x : Int} (hw : H[w]? = some (.row (tri a b c) 0 s false)) : storeV Tryd.prog 3 H (.ptr w 1 0) (.int .i64 x) = some (none, H.set w (.row (tri a x c) 0 (min s 1) false)) := by
  rw [store_row sc3 (y := .int .i64 b) rfl hw rfl]; rfl
theorem st_tri2 {H : AH} {w s : Nat} {a b c x : Int} (hw : H[w]? = some (.row (tri a b c) 0 s false)) : storeV Tryd.prog 3 H (.ptr w 2 0) (.int .i64 x) = some (none, H.set w (.row (tri a b x) 0 (min s 2) false)) := by
  rw [store_row sc3 (y := .int .i64 c) rfl hw rfl]; rfl
/-- How many turns begin at different marks. -/
def ordW (M S : Nat) : Nat := ((List.range' 1 M).find? fun j => j * S % M == 0).getD 0
theorem ord_at {M S j : Nat} (_hM : 1 ≤ M) (h1 : 1 ≤ j) (h2 : j ≤ M) (h3 : j * S % M = 0) (h4 : ∀ i, 1 ≤ i → i < j → i * S % M ≠ 0) : ordW M S = j := by
  unfold ordW
  have : (List.range' 1 M).find? (fun j => j * S % M == 0) = some j := by
    rw [List.find?_eq_some_iff_getElem]
    refine ⟨by simpa using h3, j - 1, by simp; omega, by simp; omega, fun i hi => ?_⟩
    have := h4 (1 + i) (by omega) (by omega)
    simpa using this
  rw [this]; rfl
set_option maxRecDepth 100000 in
theorem wound_e (m s t : Nat) (hm : m < 256) (hs : s < 256) (ht : t < 256) (M S : Nat) (hM : M = 1 + m % 8) (hS : S = s % M) (H : AH) (Q : AV → AH → Prop) (h : ∀ H', Ext H H' → 1 ≤ ordW M S → ordW M S ≤ M → Q (.agg [.int .i64 M, .int .i64 S, .int .i64 (1 + t % ordW M S : Nat)]) H') : AC Tryd.prog 5 [.int .u8 m, .int .u8 s, .int .u8 t, .int .i64 8] H Q := by
  refine L_body 44 Tryd.func5 rfl rfl ?_
  have tm : ∀ a b : Nat, ((a : Int)).tmod (b : Int) = ((a % b : Nat) : Int) := fun a b => by rw [Int.tmod_eq_emod_of_nonneg (by omega)]; rfl
  have hM1 : 1 ≤ M ∧ M ≤ 8 := by omega
  have hS1 : S < M := hS ▸ Nat.mod_lt _ (by omega)
  have t1 := tm m 8
  rw [show ((8 : Nat) : Int) = 8 from rfl] at t1
  have t2 := tm s M
  rw [← hS] at t2
  have hM2 : (1 : Int) + (m : Int) % 8 = M := by omega
  have hMne : ¬ M = 0 := by omega
  obtain ⟨I, hI, hz⟩ := zeroT_some zt23
  refine L_reg [0, 1, 2, 3, 8] (fun K hK => ?_)
  simp [hI, hz]
  apply hK; clear hK K
  have hE0 : Ext H (H ++ [AObj.row (tri 0 0 0) 0 0 false]) := .push _ _
  have h0 : (H ++ [AObj.row (tri 0 0 0) 0 0 false])[H.length]? = some (.row (tri 0 0 0) 0 0 false) := by simp
  have hlt0 : H.length < (H ++ [AObj.row (tri 0 0 0) 0 0 false]).length := by simp
  simp only [tri] at hE0 h0 hlt0
  generalize H ++ [AObj.row [AV.int IntKind.i64 0, AV.int IntKind.i64 0, AV.int IntKind.i64 0] 0 0 false] = H1 at hE0 h0 hlt0 ⊢
  generalize hw0 : H.length = w0 at h0 hlt0 ⊢
  refine L_reg [1, 2, 8, 9] (fun K hK => ?_)
  simp [hI, hz, bw23, put23', wrap_i64 (a := (m : Int)) (by omega), t1, hM2, wrap_i64 (a := (M : Int)) (by omega)]
  apply hK; clear hK K
  have hE1 : Ext H1 (H1 ++ [AObj.row (tri M 0 0) 0 0 false]) := .push _ _
  have h1 : (H1 ++ [AObj.row (tri M 0 0) 0 0 false])[H1.length]? = some (.row (tri M 0 0) 0 0 false) := by simp
  generalize H1 ++ [AObj.row (tri M 0 0) 0 0 false] = H2 at hE1 h1 ⊢
  generalize hw1 : H1.length = w1 at h1 hlt0 ⊢
  have hE2 := hE0.trans hE1
  have h02 := hE1.row h0
  have hl2 : w1 < H2.length := (List.getElem?_eq_some_iff.1 h1).1
  have e0 := ld_tri0 h1
  have s1 := st_tri1 (x := S) h1
  refine L_reg [2, 8, 9] (fun K hK => ?_)
  simp [e0, s1, wrap_i64 (a := (s : Int)) (by omega), t2, hMne]
  apply hK; clear hK K
  have h13 : (H2.set w1 (.row (tri M S 0) 0 (min 0 1) false))[w1]? = some (.row (tri M S 0) 0 0 false) := by simp [hl2]
  have h03 : (H2.set w1 (.row (tri M S 0) 0 (min 0 1) false))[w0]? = some (.row (tri 0 0 0) 0 0 false) := by rw [List.getElem?_set_ne (by omega)]; exact h02
  have hE3 : Ext H (H2.set w1 (.row (tri M S 0) 0 (min 0 1) false)) := hE2.set _ (by omega)
  simp only [Nat.zero_min] at h13 h03 hE3
  generalize H2.set w1 (.row (tri M S 0) 0 0 false) = H3 at h13 h03 hE3 ⊢
  have hl3 : w1 < H3.length := (List.getElem?_eq_some_iff.1 h13).1
  have f0 := ld_tri0 h13
  have f1 := ld_tri1 h13
  refine L_reg [2, 8, 9, 10] (fun K hK => ?_)
  simp
  apply hK; clear hK K
  refine L_reg [2, 8, 9, 10, 11] (fun K hK => ?_)
  simp [f1]
  apply hK; clear hK K
  have hMM : M * S % M = 0 := by rw [Nat.mul_mod_right]
  refine L_block (L_loopV [10, 11] (fun r vs H' => ∃ j : Nat, r = M - j ∧ 1 ≤ j ∧ j ≤ M ∧ (∀ i, 1 ≤ i → i < j → i * S % M ≠ 0) ∧ vs = [.int .i64 j, .int .i64 (j * S % M : Nat)] ∧ H3 = H') _ [.int .i64 1, .int .i64 S] rfl ⟨1, rfl, by omega, by omega, fun i h1 h2 => by omega, by rw [Nat.one_mul, Nat.mod_eq_of_lt hS1]; rfl, rfl⟩ ?_)
  rintro r _ _ ⟨j, rfl, hj1, hj2, hnz, rfl, rfl⟩
  obtain ⟨x, hx⟩ : ∃ x, x = j * S % M := ⟨_, rfl⟩
  have hxM : x < M := hx ▸ Nat.mod_lt _ (by omega)
  rw [← hx]
  refine L_reg [2, 8, 9, 10, 11, 27] (fun K hK => ?_)
  simp
  apply hK; clear hK K
  by_cases hx0 : x = 0
  · have ho := ord_at hM1.1 hj1 hj2 (hx ▸ hx0) hnz
    refine L_false (by simp [hx0]) (L_exit ?_)
    have t3 := tm t j
    have hj0 : ¬ j = 0 := by omega
    have hj3 : t % j < j := Nat.mod_lt _ (by omega)
    obtain ⟨y, hy⟩ : ∃ y, y = t % j := ⟨_, rfl⟩
    rw [← hy] at t3 hj3
    have s2 := st_tri2 (x := 1 + (y : Int)) h13
    refine L_reg [8, 9] (fun K hK => ?_)
    simp [s2, wrap_i64 (a := (t : Int)) (by omega), t3, hj0, wrap_i64 (a := 1 + (y : Int)) (by omega)]
    apply hK; clear hK K
    have h14 : (H3.set w1 (.row (tri M S (1 + (y : Int))) 0 (min 0 2) false))[w1]? = some (.row (tri M S (1 + (y : Int))) 0 0 false) := by simp [hl3]
    have h04 : (H3.set w1 (.row (tri M S (1 + (y : Int))) 0 (min 0 2) false))[w0]? = some (.row (tri 0 0 0) 0 0 false) := by rw [List.getElem?_set_ne (by omega)]; exact h03
    have hE4 : Ext H (H3.set w1 (.row (tri M S (1 + (y : Int))) 0 (min 0 2) false)) := hE3.set _ (by omega)
    simp only [Nat.zero_min] at h14 h04 hE4
    generalize H3.set w1 (.row (tri M S (1 + (y : Int))) 0 0 false) = H4 at h14 h04 hE4 ⊢
    have l4 := ldn_tri h14
    have s4 := set23 (x := M) (y := S) (z := 1 + (y : Int)) h04
    refine L_reg [8] (fun K hK => ?_)
    simp [l4, s4]
    apply hK; clear hK K
    have hl4 : w0 < H4.length := (List.getElem?_eq_some_iff.1 h04).1
    have hq := h (H4.set w0 (.row (tri M S (1 + (y : Int))) 0 0 false)) (hE4.set _ (by omega)) (by omega) (by omega)
    rw [ho, ← hy] at hq
    refine L_ret ⟨.inr rfl, _, res_cell rfl ?_, hq⟩
    have hrow : (H4.set w0 (.row (tri M S (1 + (y : Int))) 0 0 false))[w0]? = some (.row (tri M S (1 + (y : Int))) 0 0 false) := by simp [hl4]
    show loadV Tryd.prog 23 _ (.ptr w0 0 0) = _
    rw [load_agg ag23, ldn_tri hrow]
    rfl
  · have hjM : j ≠ M := fun e => hx0 (by rw [hx, e]; exact hMM)
    refine L_true (by simp; omega) (L_block ?_)
    have hnx : (x + S) % M = (j + 1) * S % M := by rw [hx, Nat.succ_mul, Nat.mod_add_mod]
    have t4 := tm (x + S) M
    rw [hnx, show ((x + S : Nat) : Int) = (x : Int) + S by omega] at t4
    obtain ⟨x2, hx2⟩ : ∃ x, x = (j + 1) * S % M := ⟨_, rfl⟩
    have hx2M : x2 < M := hx2 ▸ Nat.mod_lt _ (by omega)
    rw [← hx2] at t4
    refine L_reg [2, 8, 9, 10, 11] (fun K hK => ?_)
    simp [wrap_i64 (a := (j : Int) + 1) (by omega)]
    apply hK; clear hK K
    refine L_reg [2, 8, 9, 10, 11] (fun K hK => ?_)
    simp [f0, f1, wrap_i64 (a := (x : Int) + S) (by omega), t4, hMne]
    apply hK; clear hK K
    exact ⟨M - (j + 1), [.int .i64 (j + 1 : Nat), .int .i64 x2], by omega, by simp, j + 1, rfl, by omega, by omega, fun i h1 h2 => by
      by_cases e : i = j
      · subst e; rw [← hx]; exact hx0
      · exact hnz i h1 (by omega), by rw [hx2], rfl⟩
theorem wound_ac (m s t : Nat) (hm : m < 256) (hs : s < 256) (ht : t < 256) (M S : Nat) (hM : M = 1 + m % 8) (hS : S = s % M) (H : AH) (Q : AV → AH → Prop) (h : Q (.agg [.int .i64 M, .int .i64 S, .int .i64 (1 + t % ordW M S : Nat)]) H) : AC Tryd.prog 5 [.int .u8 m, .int .u8 s, .int .u8 t, .int .i64 8] H Q :=
  AC.quiet (by simp [belB]) (fun Q h => wound_e m s t hm hs ht M S hM hS H Q fun H' hE _ _ => h H' hE) Q h
theorem ord_pos {M S : Nat} (hM : 1 ≤ M) : 1 ≤ ordW M S ∧ ordW M S ≤ M := by
  unfold ordW
  cases h : (List.range' 1 M).find? (fun j => j * S % M == 0) with
  | none =>
    rw [List.find?_eq_none] at h
    have := h M (List.mem_range'_1.2 ⟨hM, by omega⟩)
    simp at this
  | some j =>
    have := List.mem_of_find?_eq_some h
    rw [List.mem_range'_1] at this
    exact ⟨this.1, by simp; omega⟩
noncomputable def rest3 : List Code := restOf Tryd.f3 2
noncomputable def pk (M S T : Nat) : Bool := kernT cxz Tryd.f3 (keepT 3) 179 3000 rest3 [(7, .ptr 1 0 0)] (gRows gs ++ [.row [.int .i64 (.ofNat M), .int .i64 (.ofNat S), .int .i64 (.ofNat T)] 0 0 false])
set_option maxRecDepth 100000 in
theorem topSpread_ac (m s t : Nat) (hm : m < 256) (hs : s < 256) (ht : t < 256) (H : AH) (hg : HasG gs H) (htab : ∀ M S T, 1 ≤ M → M ≤ 8 → S < M → 1 ≤ T → T ≤ ordW M S → pk M S T = true) : AC Tryd.prog 3 [.int .u8 m, .int .u8 s, .int .u8 t] H fun v _ => v = .bool true := by
  refine AC.of_nilG (.cons (.int _ _) (.cons (.int _ _) (.cons (.int _ _) .nil))) ?_ H hg
  refine L_body 179 Tryd.func3 rfl rfl ?_
  obtain ⟨M, hM⟩ : ∃ M, M = 1 + m % 8 := ⟨_, rfl⟩
  obtain ⟨S, hS⟩ : ∃ S, S = s % M := ⟨_, rfl⟩
  have hM1 : 1 ≤ M ∧ M ≤ 8 := by omega
  have hS1 : S < M := hS ▸ Nat.mod_lt _ (by omega)
  have ho := @ord_pos M S hM1.1
  have hw := wound_ac m s t hm hs ht M S hM hS (gRows gs)
  have hT : t % ordW M S < ordW M S := Nat.mod_lt _ (by omega)
  have ht2 := htab M S (1 + t % ordW M S) hM1.1 hM1.2 hS1 (by omega) (by omega)
  obtain ⟨T, hT2⟩ : ∃ T, T = 1 + t % ordW M S := ⟨_, rfl⟩
  rw [← hT2] at hw ht2
  obtain ⟨I, hI, hz⟩ := zeroT_some zt23
  have hput := put23 (gRows gs) M S T
  refine L_reg [0, 1, 2] (fun K hK => ?_)
  simp
  apply hK; clear hK K
  refine L_reg [7] (fun K hK => ?_)
  simp [okFn_low]
  refine hw _ ?_
  simp [hI, hz, hput]
  apply hK; clear hK K
  exact L_kernT cxz_ok (keepT 3) 3000 (by kernel_rfl) ht2 (by kernel_rfl)
end Go.Proofs.YticlfkmjmhjiaaaDoor

/- What the listed package variable gives. -/
namespace Go.Proofs.YticlfkmjmhjiaaaDoor
open Go Go.Proofs.YticlfkmjmhjiaaaDoor.AX Go.ChangeShapes Go.WideShapes Go.ChangeAt Go.RowKit
def laid : List (String × DataW Unit) := [("vitola/heap.past", Rows.laid_vitola_heap_past)]
theorem own : ownKnob Tryd.prog.godebug = none := by kernel_rfl
def doorSteps : Nat := 400
theorem door_met (os : Os) (args : Array Value) : laidMetH Tryd.prog laid ((World.doorLaid Tryd.prog doorSteps os).forCall (fun _ _ => 0) ⟨#[], args, []⟩).memory :=
  laidMetH_of_parts3 (fuel := 8) (laidMet_of_run' 8 (by kernel_rfl) (by kernel_rfl)) (by kernel_rfl) (by kernel_rfl)
theorem gPast : Tryd.prog.globalNamed "vitola/heap.past" = some 0 := by kernel_rfl
theorem tPast : (Tryd.prog.globals[0]?).map (·.type) = some 110 := by kernel_rfl
set_option maxRecDepth 100000 in
theorem of_laid {W : World} (h : laidMetH Tryd.prog laid W) : ∀ x ∈ gs, ∃ C e fz, W.heap[x.1]? = some (.cells C e fz) ∧ RelVs .empty x.2 C.toList := by
  rw [MakeChecks.laidMetH_plain _ _ _ (by kernel_rfl)] at h
  obtain ⟨ps, ⟨g0, t0, cs0, f0, p0, q0, hg0, ht0, hv0, hd0, _, _⟩, _, _⟩ := h
  obtain rfl := Option.some.inj (gPast.symm.trans hg0)
  obtain rfl := Option.some.inj (tPast.symm.trans ht0)
  intro x hx
  simp only [gs, List.mem_singleton] at hx
  subst hx
  unfold World.var? at hv0
  rw [gPast] at hv0
  simp only [Option.bind_some] at hv0
  split at hv0
  case h_2 => cases hv0
  rename_i C e fz hC
  have hcs := Option.some.inj hv0
  rw [hcs] at hC
  refine ⟨cs0, e, fz, hC, ?_⟩
  have hu := Tryd.underlying110
  obtain ⟨xs, m, -, hx1, hlen, hn, hel⟩ := DataW.trod_struct hu hd0
  have c3 : Tryd.prog.cellsOf 3 = 1 := by kernel_rfl
  have c110 : Tryd.prog.cellsOf 110 = 2 := by kernel_rfl
  obtain ⟨l⟩ := cs0
  have h0 : DataW.trod _ Tryd.prog W 0 _ false m 3 ((l.drop 0).take (Tryd.prog.cellsOf 3)) = xs[0]? := hel 0 _ rfl
  have h1 : DataW.trod _ Tryd.prog W 0 _ false m 3 ((l.drop 1).take (Tryd.prog.cellsOf 3)) = xs[1]? := hel 1 _ rfl
  rw [c110] at hlen
  rw [c3] at h0 h1
  have hx1 : [DataW.lit (Lit.int .i64 24), DataW.lit (Lit.int .i64 24)] = xs.map (·.1) := DataW.agg.inj (congrArg Prod.fst hx1)
  match l, hlen, xs, hn, hx1, h0, h1 with
  | [a, b], _, [x0, x1], _, hx1, h0, h1 =>
    simp only [List.map_cons, List.map_nil, List.cons.injEq] at hx1
    obtain ⟨n0, e1, e2, _⟩ := DataW.trod_int Tryd.underlying3 (show DataW.trod _ Tryd.prog W 0 _ false m 3 [a] = some x0 from h0)
    obtain ⟨n1, e3, e4, _⟩ := DataW.trod_int Tryd.underlying3 (show DataW.trod _ Tryd.prog W 0 _ false m 3 [b] = some x1 from h1)
    cases e1
    cases e3
    rw [e2, e4] at hx1
    have q0 : (24 : Int) = n0 := by simpa using hx1.1
    have q1 : (24 : Int) = n1 := by simpa using hx1.2
    subst q0
    subst q1
    exact .cons (.int _ _) (.cons (.int _ _) .nil)
theorem hasG_H0 {W : World} {bs : List Nat} : HasG gs (H0 W bs ++ gRows gs) := by
  intro x hx
  simp only [gs, List.mem_singleton] at hx
  subst hx
  exact ⟨by rw [gfind_H0]; rfl, .cons (.int _ _) (.cons (.int _ _) .nil)⟩
theorem wants_of {P : Program} {ts : Array TypeId} (h : (ts.toList.all fun t => !P.wantsStandIn t) = true) : ∀ (j : Nat) (t : TypeId), ts[j]? = some t → P.wantsStandIn t = false := by
  intro j t ht
  have := List.all_eq_true.1 h t (by rw [Array.mem_toList_iff]; exact Array.mem_of_getElem? ht)
  simpa using this
end Go.Proofs.YticlfkmjmhjiaaaDoor
