/- Joined texts: Base, TF, Shelf, Str, WordM, Chk, Par, Clash, ClashP, ClashR, StraightM, Pub, Pub2, Pub3, MakeT, MakeU, MakeV, TurnT, TurnU, SameR, CntT, Works, Own, Laws1, WProved, SplitM, WSplit, WCounted, EvT. -/
import Derived.Test.YtlghgbdelmiakaaChecked
import Derived.Test.YtlghgbdelmiakaaAxQ
import Derived.Test.YtlghgbdelmiakaaAxR
import Derived.Shelf.Strings.Builder1
import Derived.Shelf.Strings.Builder2
import Derived.Shelf.Strings.BuilderF
import Derived.Shelf.Strings.Search1
import Derived.Shelf.Strings.Search2
import Derived.Shelf.Strings.Search3
import Derived.Shelf.Strings.Count
import Derived.Shelf.LaysM
import Derived.Shelf.Strings.Shaped
import Derived.Shelf.Strings.Prefix
import Derived.Shelf.Bits.Mul64
import Derived.Shelf.Strings.Repeat
import Derived.Test.YtlghgbdelmiakaaProg
import Derived.Test.YtlghgbdelmiakaaAxO
import Derived.Lib.IndexBytes
import Derived.Lib.Index
/- What is run, and what is kept between its statements. -/
namespace Go.Proofs.Ytlghgbdelmiakaa
open Go Go.Proofs.Ytlghgbdelmiakaa.AX Go.RowKit
set_option maxRecDepth 100000

def keepT (f : Nat) : List Nat :=
  bif Nat.ble f 54 then bif Nat.ble f 27 then bif Nat.ble f 13 then bif Nat.ble f 6 then bif Nat.ble f 3 then bif Nat.ble f 1 then bif Nat.ble f 0 then [] else [] else bif Nat.ble f 2 then [] else [0, 1, 2, 3, 8, 9, 10, 11, 12, 13, 14, 15, 16, 17, 18, 19, 20, 23] else bif Nat.ble f 5 then bif Nat.ble f 4 then [0, 1, 2, 6, 7, 8, 9, 10, 11, 12, 13, 14, 15, 16, 17, 18] else [0, 1, 2, 6, 7, 8, 9, 10, 11, 12, 13, 14, 15, 16, 17, 18, 26] else [0, 1, 4, 5, 6, 7, 8, 9, 10, 11, 12, 15] else bif Nat.ble f 10 then bif Nat.ble f 8 then bif Nat.ble f 7 then [0, 2, 3, 4, 5, 6, 7, 8, 9, 10, 11, 12, 13, 14, 15, 16, 17, 29, 30, 31, 48, 50, 63, 104, 107, 108, 109, 155] else [0, 1, 4, 5, 6, 7, 8, 9, 10, 11, 12, 13, 14, 15, 16, 17, 18, 19, 32, 35, 36, 37, 39, 40, 41, 75, 80, 94] else bif Nat.ble f 9 then [0, 1, 4, 5, 6, 7, 8, 9, 10, 11, 12, 14, 15, 16, 17, 18, 19, 56, 57, 58, 59, 103, 119, 127, 147] else [0, 1, 2, 3, 8, 9, 10, 11, 12, 13, 14, 15, 16, 17, 18, 19, 20, 21, 22, 23, 24, 25, 26, 32, 33, 34, 41, 49, 61, 70, 75, 81, 99, 113] else bif Nat.ble f 12 then bif Nat.ble f 11 then [0, 1, 2, 3, 4, 6, 8, 9, 10, 12, 13, 14, 16, 18, 19, 20, 22, 24, 25, 26, 27, 28, 29, 30] else [0, 1, 2, 3, 4, 5, 6, 7, 8, 9, 10, 11, 12, 13, 14, 15, 16, 17, 18, 19, 67] else [0, 2, 3, 4, 8, 12] else bif Nat.ble f 20 then bif Nat.ble f 17 then bif Nat.ble f 15 then bif Nat.ble f 14 then [0, 2, 3, 4, 8, 12] else [0, 2, 3, 4, 5, 6, 7, 11, 21] else bif Nat.ble f 16 then [0, 2, 3, 4, 5, 6, 7, 8, 9, 10, 14, 24] else [0, 1, 2, 3, 8, 9, 10, 14, 25, 33, 46] else bif Nat.ble f 19 then bif Nat.ble f 18 then [0, 1, 2, 3, 8, 9, 10, 30, 38, 52] else [0, 2, 4, 7, 10, 12, 13, 14, 21] else [0, 2, 3, 6, 9, 13, 25] else bif Nat.ble f 24 then bif Nat.ble f 22 then bif Nat.ble f 21 then [0, 1, 4, 5, 6, 11] else [0, 1, 4, 5, 6, 11] else bif Nat.ble f 23 then [0, 1, 2, 6, 7, 8, 13, 21] else [0, 1, 2, 6, 7, 8, 9, 10, 22, 24, 36, 40] else bif Nat.ble f 26 then bif Nat.ble f 25 then [0, 1, 4, 5, 6, 7, 12, 16, 24] else [0, 1, 4, 5, 6, 7, 12, 16, 24] else [0, 1, 4, 5, 6, 10, 15] else bif Nat.ble f 41 then bif Nat.ble f 34 then bif Nat.ble f 31 then bif Nat.ble f 29 then bif Nat.ble f 28 then [0, 1, 4, 5, 6, 18, 20] else [0, 2, 3, 4, 8] else bif Nat.ble f 30 then [0, 2, 3, 4, 5, 9, 15] else [0, 1, 4, 5, 7, 8, 9, 12, 13, 14, 15, 21, 28, 33] else bif Nat.ble f 33 then bif Nat.ble f 32 then [0, 1, 4, 5, 6, 10, 21, 29, 31] else [0, 2, 3, 4, 5, 6, 10, 15, 26] else [0, 2, 3, 4, 8, 12] else bif Nat.ble f 38 then bif Nat.ble f 36 then bif Nat.ble f 35 then [0, 2, 3, 4, 5, 8, 11] else [0, 2, 3, 4, 5, 6, 9, 12, 17, 23] else bif Nat.ble f 37 then [0, 1, 4, 5, 6, 10] else [0, 2, 3, 7, 15] else bif Nat.ble f 40 then bif Nat.ble f 39 then [0, 2] else [0, 1, 4, 6] else [0, 1, 4, 5, 6, 9, 15, 24] else bif Nat.ble f 48 then bif Nat.ble f 45 then bif Nat.ble f 43 then bif Nat.ble f 42 then [0, 1, 4] else [0, 2, 3, 7, 18] else bif Nat.ble f 44 then [0, 2, 3, 4, 5, 6, 7, 11, 23] else [0, 1, 4, 5, 6, 7, 8, 9, 10, 11, 12, 17, 21, 28, 33, 45] else bif Nat.ble f 47 then bif Nat.ble f 46 then [0, 1, 4] else [0, 1, 4] else [0, 1, 2, 6] else bif Nat.ble f 51 then bif Nat.ble f 50 then bif Nat.ble f 49 then [0, 1, 2, 6, 7, 8, 11, 22] else [0, 1, 4, 16] else [0, 1, 4, 5, 6, 10, 11, 12, 28] else bif Nat.ble f 53 then bif Nat.ble f 52 then [0, 1, 4, 13] else [0, 1, 4, 5, 6, 9, 23] else [0, 1, 4, 5, 6, 8, 9, 10, 14, 16] else bif Nat.ble f 82 then bif Nat.ble f 68 then bif Nat.ble f 61 then bif Nat.ble f 58 then bif Nat.ble f 56 then bif Nat.ble f 55 then [0, 1, 4, 5, 6, 7, 8, 9, 10, 11, 12, 14, 18, 34, 40, 42, 43, 49, 58, 67, 76, 85, 96, 104, 113] else [0, 1, 4] else bif Nat.ble f 57 then [0, 1, 2, 6, 7, 15] else [0, 1, 2, 6, 7, 12, 19] else bif Nat.ble f 60 then bif Nat.ble f 59 then [0, 1, 4, 5, 6, 11, 12, 13] else [0, 2, 3, 4, 7, 15] else [0, 2, 3, 4, 7, 15] else bif Nat.ble f 65 then bif Nat.ble f 63 then bif Nat.ble f 62 then [0, 2] else [0, 2, 3, 4, 7, 13] else bif Nat.ble f 64 then [0, 1, 4, 5, 16] else [0, 1, 2, 6, 7, 8, 9, 10, 11, 17, 18, 19] else bif Nat.ble f 67 then bif Nat.ble f 66 then [0, 2, 4, 6] else [] else [0, 1, 4, 5, 6, 7, 8, 9, 10, 11, 12, 13, 16, 24, 31, 36, 59, 64, 73, 93, 107, 114, 132, 139] else bif Nat.ble f 75 then bif Nat.ble f 72 then bif Nat.ble f 70 then bif Nat.ble f 69 then [0, 1, 4, 5, 7, 8, 9, 16] else [0, 1, 3] else bif Nat.ble f 71 then [0, 1, 2, 4] else [0, 1, 4, 5, 6, 7, 8, 9] else bif Nat.ble f 74 then bif Nat.ble f 73 then [0, 1, 4] else [0, 1, 7, 21] else [0, 1, 4, 5] else bif Nat.ble f 79 then bif Nat.ble f 77 then bif Nat.ble f 76 then [0, 2] else [0, 2] else bif Nat.ble f 78 then [0, 2, 3, 5, 7, 8, 9, 12] else [0, 1, 4, 6] else bif Nat.ble f 81 then bif Nat.ble f 80 then [0, 1, 4] else [] else [0, 2] else bif Nat.ble f 96 then bif Nat.ble f 89 then bif Nat.ble f 86 then bif Nat.ble f 84 then bif Nat.ble f 83 then [0, 1, 4, 5, 6, 7, 8, 9, 10, 20, 39, 44, 77] else [0, 1, 4, 5, 6] else bif Nat.ble f 85 then [0, 1, 4, 5, 6, 7, 8, 9, 10, 11, 12, 13] else [0, 1, 4] else bif Nat.ble f 88 then bif Nat.ble f 87 then [0, 6, 19] else [0, 1, 4] else [] else bif Nat.ble f 93 then bif Nat.ble f 91 then bif Nat.ble f 90 then [0, 2, 3, 4, 5, 6, 7, 8, 12, 25, 30] else [] else bif Nat.ble f 92 then [] else [] else bif Nat.ble f 95 then bif Nat.ble f 94 then [] else [] else [] else bif Nat.ble f 103 then bif Nat.ble f 100 then bif Nat.ble f 98 then bif Nat.ble f 97 then [] else [] else bif Nat.ble f 99 then [] else [] else bif Nat.ble f 102 then bif Nat.ble f 101 then [] else [] else [] else bif Nat.ble f 106 then bif Nat.ble f 105 then bif Nat.ble f 104 then [] else [] else [] else bif Nat.ble f 108 then bif Nat.ble f 107 then [] else [] else []

def goodT (f : Nat) : Bool := Nat.ble 3 f && Nat.ble f 80 && !(Nat.beq f 67)

noncomputable def cx : Cx Try.prog where
  good := goodT
  keep := keepT
  ext _ _ _ := none

theorem okAll : (List.range 81).all (fun f => !(Nat.ble 3 f) || Nat.beq f 67 || okFn Try.prog f) = true := by kernel_rfl
theorem okFn_low {f : Nat} (h3 : 3 ≤ f) (h : f ≤ 80) (h67 : f ≠ 67) : okFn Try.prog f = true := by
  have := (List.all_eq_true.1 okAll) f (List.mem_range.2 (by omega))
  have h1 : Nat.ble 3 f = true := Nat.ble_eq_true_of_le h3
  have h2 : Nat.beq f 67 = false := by
    cases h : Nat.beq f 67 with
    | false => rfl
    | true => exact absurd (Nat.eq_of_beq_eq_true h) h67
  rw [h1, h2] at this
  simpa using this

theorem goodAll : (List.range 81).all (fun f => !goodT f || fnOrd Try.prog f) = true := by kernel_rfl

theorem cx_ok : cx.Ok where
  mixed := by kernel_rfl
  ord f h := by
    have hlt : f < 81 := by
      have h1 : Nat.ble f 80 = true := by
        simp only [cx, goodT, Bool.and_eq_true] at h
        exact h.1.2
      exact Nat.lt_succ_of_le (Nat.le_of_ble_eq_true h1)
    have := (List.all_eq_true.1 goodAll) f (List.mem_range.2 hlt)
    have hg : goodT f = true := h
    rw [hg] at this
    simpa using this
  ext f args H v H' h := by cases h
theorem mixed : Try.prog.follows .mixedOrders = true := by kernel_rfl
end Go.Proofs.Ytlghgbdelmiakaa

/- What the steps ask of the types of this program. -/
namespace Go.Proofs.Ytlghgbdelmiakaa
open Go Go.Proofs.Ytlghgbdelmiakaa.AX
@[simp] theorem ld3 (H : AH) (r off ver : Nat) : loadV Try.prog 3 H (.ptr r off ver) = ld H r off ver := ld_sc (by kernel_rfl) ..
theorem sc3 : scal Try.prog 3 = true := by kernel_rfl
theorem zt3 : zeroT Try.prog 3 = some [.int .i64 0] := by kernel_rfl
@[simp] theorem ld4 (H : AH) (r off ver : Nat) : loadV Try.prog 4 H (.ptr r off ver) = ld H r off ver := ld_sc (by kernel_rfl) ..
theorem sc4 : scal Try.prog 4 = true := by kernel_rfl
@[simp] theorem ld5 (H : AH) (r off ver : Nat) : loadV Try.prog 5 H (.ptr r off ver) = ld H r off ver := ld_sc (by kernel_rfl) ..
theorem sc5 : scal Try.prog 5 = true := by kernel_rfl
@[simp] theorem ld9 (H : AH) (r off ver : Nat) : loadV Try.prog 9 H (.ptr r off ver) = ld H r off ver := ld_sc (by kernel_rfl) ..
theorem sc9 : scal Try.prog 9 = true := by kernel_rfl
@[simp] theorem ld21 (H : AH) (r off ver : Nat) : loadV Try.prog 21 H (.ptr r off ver) = ld H r off ver := ld_sc (by kernel_rfl) ..
theorem sc21 : scal Try.prog 21 = true := by kernel_rfl
@[simp] theorem ld43 (H : AH) (r off ver : Nat) : loadV Try.prog 43 H (.ptr r off ver) = ld H r off ver := ld_sc (by kernel_rfl) ..
theorem sc43 : scal Try.prog 43 = true := by kernel_rfl
theorem slz43 : slSz Try.prog 43 = some 1 := by kernel_rfl
@[simp] theorem len43 (r : Option Nat) (off len ver sz : Nat) (full : Bool) : aLen Try.prog 43 (.slice r off len ver sz full) = some (.int .i64 len) := len_sl slz43 ..
@[simp] theorem lenp43 (r off len ver sz : Nat) : aLen Try.prog 43 (.part r off len ver sz) = some (.int .i64 len) := len_part slz43 ..
@[simp] theorem ixa43 (r off len ver : Nat) (full : Bool) (k : IntKind) (i : Int) : aIndexAddr Try.prog 43 (.slice (some r) off len ver 1 full) (.int k i) = if 0 ≤ i ∧ i < len then some (.ptr r (off + i.toNat * 1) ver) else none := ixa_sl slz43 ..
@[simp] theorem ixap43 (r off len ver : Nat) (k : IntKind) (i : Int) : aIndexAddr Try.prog 43 (.part r off len ver 1) (.int k i) = if 0 ≤ i ∧ i < len then some (.ptr r (off + i.toNat * 1) ver) else none := ixa_part slz43 ..
theorem el43 : elT Try.prog 43 = true := by kernel_rfl
theorem elz43 : elZ Try.prog 43 = some (.str []) := by kernel_rfl
@[simp] theorem ld44 (H : AH) (r off ver : Nat) : loadV Try.prog 44 H (.ptr r off ver) = ld H r off ver := ld_sc (by kernel_rfl) ..
theorem sc44 : scal Try.prog 44 = true := by kernel_rfl
theorem slz44 : slSz Try.prog 44 = some 1 := by kernel_rfl
@[simp] theorem len44 (r : Option Nat) (off len ver sz : Nat) (full : Bool) : aLen Try.prog 44 (.slice r off len ver sz full) = some (.int .i64 len) := len_sl slz44 ..
@[simp] theorem lenp44 (r off len ver sz : Nat) : aLen Try.prog 44 (.part r off len ver sz) = some (.int .i64 len) := len_part slz44 ..
@[simp] theorem ixa44 (r off len ver : Nat) (full : Bool) (k : IntKind) (i : Int) : aIndexAddr Try.prog 44 (.slice (some r) off len ver 1 full) (.int k i) = if 0 ≤ i ∧ i < len then some (.ptr r (off + i.toNat * 1) ver) else none := ixa_sl slz44 ..
@[simp] theorem ixap44 (r off len ver : Nat) (k : IntKind) (i : Int) : aIndexAddr Try.prog 44 (.part r off len ver 1) (.int k i) = if 0 ≤ i ∧ i < len then some (.ptr r (off + i.toNat * 1) ver) else none := ixa_part slz44 ..
theorem el44 : elT Try.prog 44 = true := by kernel_rfl
theorem elz44 : elZ Try.prog 44 = some (.int .i64 0) := by kernel_rfl
@[simp] theorem row44 (H : AH) (b : Int) : rowV Try.prog 44 1 [(0, .int .i64 b)] H = some (some (.slice (some H.length) 0 1 0 1 false), H ++ [.row [.int .i64 b] 0 1 false]) := row1 el44 rfl rfl
theorem zt44 : zeroT Try.prog 44 = some [.slice none 0 0 0 1 false] := by kernel_rfl
@[simp] theorem ld45 (H : AH) (r off ver : Nat) : loadV Try.prog 45 H (.ptr r off ver) = ld H r off ver := ld_sc (by kernel_rfl) ..
theorem sc45 : scal Try.prog 45 = true := by kernel_rfl
@[simp] theorem ld66 (H : AH) (r off ver : Nat) : loadV Try.prog 66 H (.ptr r off ver) = ld H r off ver := ld_sc (by kernel_rfl) ..
theorem sc66 : scal Try.prog 66 = true := by kernel_rfl
@[simp] theorem ld68 (H : AH) (r off ver : Nat) : loadV Try.prog 68 H (.ptr r off ver) = ld H r off ver := ld_sc (by kernel_rfl) ..
theorem sc68 : scal Try.prog 68 = true := by kernel_rfl
@[simp] theorem ld72 (H : AH) (r off ver : Nat) : loadV Try.prog 72 H (.ptr r off ver) = ld H r off ver := ld_sc (by kernel_rfl) ..
theorem sc72 : scal Try.prog 72 = true := by kernel_rfl
theorem slz72 : slSz Try.prog 72 = some 1 := by kernel_rfl
@[simp] theorem len72 (r : Option Nat) (off len ver sz : Nat) (full : Bool) : aLen Try.prog 72 (.slice r off len ver sz full) = some (.int .i64 len) := len_sl slz72 ..
@[simp] theorem lenp72 (r off len ver sz : Nat) : aLen Try.prog 72 (.part r off len ver sz) = some (.int .i64 len) := len_part slz72 ..
@[simp] theorem ixa72 (r off len ver : Nat) (full : Bool) (k : IntKind) (i : Int) : aIndexAddr Try.prog 72 (.slice (some r) off len ver 1 full) (.int k i) = if 0 ≤ i ∧ i < len then some (.ptr r (off + i.toNat * 1) ver) else none := ixa_sl slz72 ..
@[simp] theorem ixap72 (r off len ver : Nat) (k : IntKind) (i : Int) : aIndexAddr Try.prog 72 (.part r off len ver 1) (.int k i) = if 0 ≤ i ∧ i < len then some (.ptr r (off + i.toNat * 1) ver) else none := ixa_part slz72 ..
theorem el72 : elT Try.prog 72 = true := by kernel_rfl
theorem elz72 : elZ Try.prog 72 = some (.int .i32 0) := by kernel_rfl
@[simp] theorem row72 (H : AH) (b : Int) : rowV Try.prog 72 1 [(0, .int .i32 b)] H = some (some (.slice (some H.length) 0 1 0 1 false), H ++ [.row [.int .i32 b] 0 1 false]) := row1 el72 rfl rfl
theorem zt72 : zeroT Try.prog 72 = some [.slice none 0 0 0 1 false] := by kernel_rfl
@[simp] theorem ld76 (H : AH) (r off ver : Nat) : loadV Try.prog 76 H (.ptr r off ver) = ld H r off ver := ld_sc (by kernel_rfl) ..
theorem sc76 : scal Try.prog 76 = true := by kernel_rfl
@[simp] theorem ld77 (H : AH) (r off ver : Nat) : loadV Try.prog 77 H (.ptr r off ver) = ld H r off ver := ld_sc (by kernel_rfl) ..
theorem sc77 : scal Try.prog 77 = true := by kernel_rfl
theorem slz77 : slSz Try.prog 77 = some 1 := by kernel_rfl
@[simp] theorem len77 (r : Option Nat) (off len ver sz : Nat) (full : Bool) : aLen Try.prog 77 (.slice r off len ver sz full) = some (.int .i64 len) := len_sl slz77 ..
@[simp] theorem lenp77 (r off len ver sz : Nat) : aLen Try.prog 77 (.part r off len ver sz) = some (.int .i64 len) := len_part slz77 ..
@[simp] theorem ixa77 (r off len ver : Nat) (full : Bool) (k : IntKind) (i : Int) : aIndexAddr Try.prog 77 (.slice (some r) off len ver 1 full) (.int k i) = if 0 ≤ i ∧ i < len then some (.ptr r (off + i.toNat * 1) ver) else none := ixa_sl slz77 ..
@[simp] theorem ixap77 (r off len ver : Nat) (k : IntKind) (i : Int) : aIndexAddr Try.prog 77 (.part r off len ver 1) (.int k i) = if 0 ≤ i ∧ i < len then some (.ptr r (off + i.toNat * 1) ver) else none := ixa_part slz77 ..
theorem el77 : elT Try.prog 77 = true := by kernel_rfl
@[simp] theorem row77 (H : AH) (b : Int) : rowV Try.prog 77 1 [(0, .int .u8 b)] H = some (some (.slice (some H.length) 0 1 0 1 false), H ++ [.row [.int .u8 b] 0 1 false]) := row1 el77 rfl rfl
theorem zt77 : zeroT Try.prog 77 = some [.slice none 0 0 0 1 false] := by kernel_rfl
theorem ag79 : aggSz Try.prog 79 = some 2 := by kernel_rfl
@[simp] theorem ld79 (H : AH) (r off ver : Nat) : loadV Try.prog 79 H (.ptr r off ver) = (ldn H r ver 2 off).map .agg := load_agg ag79 ..
@[simp] theorem fa79_0 (r off ver : Nat) : aFieldAddr Try.prog 79 (.ptr r off ver) 0 = some (.ptr r (off + 0) ver) := fld_ptr (by kernel_rfl) ..
@[simp] theorem fa79_1 (r off ver : Nat) : aFieldAddr Try.prog 79 (.ptr r off ver) 1 = some (.ptr r (off + 1) ver) := fld_ptr (by kernel_rfl) ..
theorem zt79 : zeroT Try.prog 79 = some [.nilptr, .slice none 0 0 0 1 false] := by kernel_rfl
@[simp] theorem ld87 (H : AH) (r off ver : Nat) : loadV Try.prog 87 H (.ptr r off ver) = ld H r off ver := ld_sc (by kernel_rfl) ..
theorem sc87 : scal Try.prog 87 = true := by kernel_rfl
@[simp] theorem ld90 (H : AH) (r off ver : Nat) : loadV Try.prog 90 H (.ptr r off ver) = ld H r off ver := ld_sc (by kernel_rfl) ..
theorem sc90 : scal Try.prog 90 = true := by kernel_rfl
@[simp] theorem ld93 (H : AH) (r off ver : Nat) : loadV Try.prog 93 H (.ptr r off ver) = ld H r off ver := ld_sc (by kernel_rfl) ..
theorem sc93 : scal Try.prog 93 = true := by kernel_rfl
@[simp] theorem cv3_68 (k : IntKind) (n : Int) : aConv Try.prog 3 68 (.int k n) = some (.int .u64 (IntKind.u64.wrap n)) := cv_int (by kernel_rfl) (by kernel_rfl) n
@[simp] theorem cv5_3 (k : IntKind) (n : Int) : aConv Try.prog 5 3 (.int k n) = some (.int .i64 (IntKind.i64.wrap n)) := cv_int (by kernel_rfl) (by kernel_rfl) n
@[simp] theorem cv5_45 (k : IntKind) (n : Int) : aConv Try.prog 5 45 (.int k n) = some (.int .u16 (IntKind.u16.wrap n)) := cv_int (by kernel_rfl) (by kernel_rfl) n
@[simp] theorem cv5_87 (k : IntKind) (n : Int) : aConv Try.prog 5 87 (.int k n) = some (.int .u32 (IntKind.u32.wrap n)) := cv_int (by kernel_rfl) (by kernel_rfl) n
@[simp] theorem cv68_3 (k : IntKind) (n : Int) : aConv Try.prog 68 3 (.int k n) = some (.int .i64 (IntKind.i64.wrap n)) := cv_int (by kernel_rfl) (by kernel_rfl) n
@[simp] theorem cv68_87 (k : IntKind) (n : Int) : aConv Try.prog 68 87 (.int k n) = some (.int .u32 (IntKind.u32.wrap n)) := cv_int (by kernel_rfl) (by kernel_rfl) n
@[simp] theorem cv87_68 (k : IntKind) (n : Int) : aConv Try.prog 87 68 (.int k n) = some (.int .u64 (IntKind.u64.wrap n)) := cv_int (by kernel_rfl) (by kernel_rfl) n
@[simp] theorem cv87_90 (k : IntKind) (n : Int) : aConv Try.prog 87 90 (.int k n) = some (.int .u64 (IntKind.u64.wrap n)) := cv_int (by kernel_rfl) (by kernel_rfl) n
@[simp] theorem cv90_87 (k : IntKind) (n : Int) : aConv Try.prog 90 87 (.int k n) = some (.int .u32 (IntKind.u32.wrap n)) := cv_int (by kernel_rfl) (by kernel_rfl) n
end Go.Proofs.Ytlghgbdelmiakaa

/- What the library's own functions do, as its shelf tells it, at this program. -/
namespace Go.Proofs
open Go.Shelf
def Try.lays143_ren : Go.Shelf.Ren := ⟨fun | 143 => 42 | 219 => 68 | 217 => 80 | 225 => 81 | 224 => 82 | 267 => 83 | 266 => 89 | 314 => 90 | n => n, fun | 9 => 9 | 3 => 3 | 4 => 4 | 5 => 5 | 46 => 68 | 146 => 88 | 51 => 87 | n => n, fun | 1 => 0 | n => n⟩
theorem Try.lays143 : Go.Proofs.Lays.n143 Try.prog Try.lays143_ren := {
  mixed := by kernel_rfl
  f143 := Try.func42.trans (congrArg some (by kernel_rfl))
  f217 := Try.func80.trans (congrArg some (by kernel_rfl))
  f219 := Try.func68.trans (congrArg some (by kernel_rfl))
  f224 := Try.func82.trans (congrArg some (by kernel_rfl))
  f225 := Try.func81.trans (congrArg some (by kernel_rfl))
  f266 := Try.func89.trans (congrArg some (by kernel_rfl))
  f267 := Try.func83.trans (congrArg some (by kernel_rfl))
  f314 := Try.func90.trans (congrArg some (by kernel_rfl))
  t3 := Try.underlying3
  a3 := Try.isAgg3
  z3 := Try.sizeOf3
  v3 := Try.zeroValue3
  t4 := Try.underlying4
  a4 := Try.isAgg4
  z4 := Try.sizeOf4
  v4 := Try.zeroValue4
  t5 := Try.underlying5
  a5 := Try.isAgg5
  z5 := Try.sizeOf5
  v5 := Try.zeroValue5
  t9 := Try.underlying9
  a9 := Try.isAgg9
  z9 := Try.sizeOf9
  v9 := Try.zeroValue9
  t46 := Try.underlying68
  a46 := Try.isAgg68
  z46 := Try.sizeOf68
  v46 := Try.zeroValue68
  t51 := Try.underlying87
  a51 := Try.isAgg87
  z51 := Try.sizeOf87
  v51 := Try.zeroValue87
  t146 := Try.underlying88
  a146 := Try.isAgg88
  z146 := Try.sizeOf88
  v146 := Try.zeroValue88
  g1 := by kernel_rfl }
open Go.RowKit Go.Lib in
/-- strings.Index: "Index returns the index of the first instance of substr in s, or -1 if substr is not present in s.": IT RETURNS 'Lib.index s substr'; the world is as it was. (LAID: no walk: one application.) -/
theorem Try.strings_Index (s sub : ByteArray) (m : Int) (w : World) (hs : s.size < 4294967281) (hm : w.cell? ⟨0, 0, none⟩ = some (.int .i64 m)) :
    Calls Try.prog 42 #[.string s, .string sub] w fun e w' => e = .returned (.int .i64 (Lib.index s.data.toList sub.data.toList)) ∧ w' = w := Any.strings_Index Try.lays143 s sub m w hs hm
def Try.lays138_ren : Go.Shelf.Ren := ⟨fun | 138 => 41 | 195 => 66 | 218 => 67 | 143 => 42 | 219 => 68 | 217 => 80 | 225 => 81 | 224 => 82 | 267 => 83 | 266 => 89 | 314 => 90 | n => n, fun | 9 => 9 | 3 => 3 | 4 => 4 | 5 => 5 | 0 => 0 | 46 => 68 | 146 => 88 | 51 => 87 | n => n, fun | 1 => 0 | n => n⟩
theorem Try.lays138 : Go.Proofs.Lays.n138 Try.prog Try.lays138_ren := {
  mixed := by kernel_rfl
  f138 := Try.func41.trans (congrArg some (by kernel_rfl))
  f143 := Try.func42.trans (congrArg some (by kernel_rfl))
  f195 := Try.func66.trans (congrArg some (by kernel_rfl))
  f217 := Try.func80.trans (congrArg some (by kernel_rfl))
  f218 := Try.func67.trans (congrArg some (by kernel_rfl))
  f219 := Try.func68.trans (congrArg some (by kernel_rfl))
  f224 := Try.func82.trans (congrArg some (by kernel_rfl))
  f225 := Try.func81.trans (congrArg some (by kernel_rfl))
  f266 := Try.func89.trans (congrArg some (by kernel_rfl))
  f267 := Try.func83.trans (congrArg some (by kernel_rfl))
  f314 := Try.func90.trans (congrArg some (by kernel_rfl))
  t0 := Try.underlying0
  a0 := Try.isAgg0
  z0 := Try.sizeOf0
  v0 := Try.zeroValue0
  t3 := Try.underlying3
  a3 := Try.isAgg3
  z3 := Try.sizeOf3
  v3 := Try.zeroValue3
  t4 := Try.underlying4
  a4 := Try.isAgg4
  z4 := Try.sizeOf4
  v4 := Try.zeroValue4
  t5 := Try.underlying5
  a5 := Try.isAgg5
  z5 := Try.sizeOf5
  v5 := Try.zeroValue5
  t9 := Try.underlying9
  a9 := Try.isAgg9
  z9 := Try.sizeOf9
  v9 := Try.zeroValue9
  t46 := Try.underlying68
  a46 := Try.isAgg68
  z46 := Try.sizeOf68
  v46 := Try.zeroValue68
  t51 := Try.underlying87
  a51 := Try.isAgg87
  z51 := Try.sizeOf87
  v51 := Try.zeroValue87
  t146 := Try.underlying88
  a146 := Try.isAgg88
  z146 := Try.sizeOf88
  v146 := Try.zeroValue88
  g1 := by kernel_rfl }
open Go.RowKit Go.Lib in
/-- strings.Count AT A substr OF ONE BYTE ('hp'): "Count counts the number of non-overlapping instances of substr in s.": IT RETURNS 'Lib.countByte s (that byte)'; the world is as it was. ✋ NO CONTRACT HERE YET at an empty substr (utf8.RuneCountInString) or at a longer one (a loop over strings.Index). (LAID: no walk: one application.) -/
theorem Try.strings_Count_one (s : ByteArray) (c : UInt8) (w : World) :
    Calls Try.prog 41 #[.string s, .string ⟨#[c]⟩] w fun e w' => e = .returned (.int .i64 (Lib.countByte s.data.toList c)) ∧ w' = w := Any.strings_Count_one Try.lays138 s c w
def Try.lays105_ren : Go.Shelf.Ren := ⟨fun | 105 => 55 | 212 => 72 | 99 => 73 | 165 => 74 | 166 => 75 | 170 => 76 | 169 => 77 | 263 => 84 | 264 => 85 | 206 => 86 | 240 => 87 | 241 => 88 | 276 => 91 | 277 => 92 | n => n, fun | 9 => 9 | 3 => 3 | 4 => 4 | 20 => 20 | 0 => 0 | 46 => 68 | 109 => 73 | 5 => 5 | 72 => 79 | 76 => 83 | 51 => 87 | 146 => 88 | 53 => 90 | 148 => 91 | 70 => 76 | 37 => 77 | 75 => 82 | 127 => 93 | 164 => 95 | 80 => 86 | n => n, fun | n => n⟩
theorem Try.lays105 : Go.Proofs.Lays.n105 Try.prog Try.lays105_ren := {
  mixed := by kernel_rfl
  f99 := Try.func73.trans (congrArg some (by kernel_rfl))
  f105 := Try.func55.trans (congrArg some (by kernel_rfl))
  f165 := Try.func74.trans (congrArg some (by kernel_rfl))
  f166 := Try.func75.trans (congrArg some (by kernel_rfl))
  f169 := Try.func77.trans (congrArg some (by kernel_rfl))
  f170 := Try.func76.trans (congrArg some (by kernel_rfl))
  f206 := Try.func86.trans (congrArg some (by kernel_rfl))
  f212 := Try.func72.trans (congrArg some (by kernel_rfl))
  f240 := Try.func87.trans (congrArg some (by kernel_rfl))
  f241 := Try.func88.trans (congrArg some (by kernel_rfl))
  f263 := Try.func84.trans (congrArg some (by kernel_rfl))
  f264 := Try.func85.trans (congrArg some (by kernel_rfl))
  f276 := Try.func91.trans (congrArg some (by kernel_rfl))
  f277 := Try.func92.trans (congrArg some (by kernel_rfl))
  t0 := Try.underlying0
  a0 := Try.isAgg0
  z0 := Try.sizeOf0
  v0 := Try.zeroValue0
  t3 := Try.underlying3
  a3 := Try.isAgg3
  z3 := Try.sizeOf3
  v3 := Try.zeroValue3
  t4 := Try.underlying4
  a4 := Try.isAgg4
  z4 := Try.sizeOf4
  v4 := Try.zeroValue4
  t5 := Try.underlying5
  a5 := Try.isAgg5
  z5 := Try.sizeOf5
  v5 := Try.zeroValue5
  t9 := Try.underlying9
  a9 := Try.isAgg9
  z9 := Try.sizeOf9
  v9 := Try.zeroValue9
  t20 := Try.underlying20
  a20 := Try.isAgg20
  z20 := Try.sizeOf20
  v20 := Try.zeroValue20
  t37 := Try.underlying77
  a37 := Try.isAgg77
  z37 := Try.sizeOf77
  v37 := Try.zeroValue77
  t46 := Try.underlying68
  a46 := Try.isAgg68
  z46 := Try.sizeOf68
  v46 := Try.zeroValue68
  t51 := Try.underlying87
  a51 := Try.isAgg87
  z51 := Try.sizeOf87
  v51 := Try.zeroValue87
  t53 := Try.underlying90
  a53 := Try.isAgg90
  z53 := Try.sizeOf90
  v53 := Try.zeroValue90
  t70 := Try.underlying76
  a70 := Try.isAgg76
  z70 := Try.sizeOf76
  v70 := Try.zeroValue76
  t72 := Try.underlying79
  a72 := Try.isAgg79
  z72 := Try.sizeOf79
  v72 := Try.zeroValue79
  t75 := Try.underlying82
  a75 := Try.isAgg82
  z75 := Try.sizeOf82
  v75 := Try.zeroValue82
  t76 := Try.underlying83
  a76 := Try.isAgg83
  z76 := Try.sizeOf83
  v76 := Try.zeroValue83
  t109 := Try.underlying73
  a109 := Try.isAgg73
  z109 := Try.sizeOf73
  v109 := Try.zeroValue73
  t127 := Try.underlying93
  a127 := Try.isAgg93
  z127 := Try.sizeOf93
  v127 := Try.zeroValue93
  t146 := Try.underlying88
  a146 := Try.isAgg88
  z146 := Try.sizeOf88
  v146 := Try.zeroValue88
  t148 := Try.underlying91
  a148 := Try.isAgg91
  z148 := Try.sizeOf91
  v148 := Try.zeroValue91
  t164 := Try.underlying95
  a164 := Try.isAgg95
  z164 := Try.sizeOf95
  v164 := Try.zeroValue95 }
theorem Try.Builder_Extra_105 : Builder.Extra Try.prog Try.lays105_ren := {
  sizeBuilder := by kernel_rfl
  liesBuilder := by kernel_rfl
  t5 := Try.underlying5
  a5 := Try.isAgg5
  z5 := Try.sizeOf5
  v5 := Try.zeroValue5
  infoByte := by kernel_rfl
  cellsByte := by kernel_rfl
  sizeByte := by kernel_rfl
  neB5 := by decide }
open Go.RowKit Go.Lib in
/-- **strings.Repeat: count ≥ 0, the result within one allocation: count copies of s.** (LAID: no walk: one application.) -/
theorem Try.strings_Repeat (s : ByteArray) (c : Nat) (w : World) (hc : c ≤ 9223372036854775807) (hlen : s.size * c ≤ 140737488355328) :
    Calls Try.prog 55 #[.string s, .int .i64 c] w fun e w' => e = .returned (.string ⟨(Lib.repeatL s.data.toList c).toArray⟩) ∧ Below w.heap.size w w' := Any.strings_Repeat Try.lays105 Try.Builder_Extra_105 s c w hc hlen
end Go.Proofs

/- Texts: what steps over them give; the library's functions on them. -/
namespace Go.Proofs.Ytlghgbdelmiakaa
open Go Go.Proofs.Ytlghgbdelmiakaa.AX Go.RowKit

section
variable {P : Program} {nt : Nat} {e : Env} {H : AH}
/-- A region that makes a text of letters in memory, second. -/
theorem L_regC {id : Nat} {o1 o2 : Oper} {l : List Oper} {cs : List Code} {Q : Ex → Env → AH → Prop} (ks : List Nat) {v1 v : AV} (g1 : o1.guard = none) (g2 : o2.guard = none)
    (h1 : execN P (oval e) H o1.op = some (some v1, H)) (d1 : dstOk nt o1.dst = true) (h2 : aRunesO P (oval (putDst e o1.dst (some v1))) H o2.op = some (some v, H)) (d2 : dstOk nt o2.dst = true)
    (h : ∀ K : Env → AH → Prop, (∀ e' H', AWL P nt cs e' H' Q → K e' H') → wpO P nt (o1 :: o2 :: l).toArray l (putDst (putDst e o1.dst (some v1)) o2.dst (some v)) H fun e H => K (ekeep ks e) H) : AWL P nt (.region id (o1 :: o2 :: l).toArray false :: cs) e H Q :=
  AWL_cons (AW_region ks (AO_op (by simp [wantedA, g1]) h1 d1 (AO_runes (by simp [wantedA, g2]) h2 d2 (wpO_sound (h (fun e' H' => AWL P nt cs e' H' Q) fun _e' _H' h => h)))))
theorem L_loopK (ks : List Nat) {c : Code} {cs : List Code} {Q : Ex → Env → AH → Prop} (ts : List Nat) (I : Nat → List AV → AH → Prop) (n0 : Nat) (vs0 : List AV) (hk : ekeep ks e = e) (he : esets e ts vs0 = e) (h0 : I n0 vs0 H)
    (round : ∀ n vs H, I n vs H → AWL P nt (flat c) (esets e ts vs) H fun x e' H' => match x with | .normal => ∃ n' vs', n' < n ∧ ekeep ks e' = esets e ts vs' ∧ I n' vs' H' | x => More P nt cs Q x e' H') : AWL P nt (.loop c :: cs) e H Q := by
  refine AWL_cons (AW_loop (fun n e1 H1 => ∃ vs, ekeep ks e1 = esets e ts vs ∧ I n vs H1) n0 ⟨vs0, by rw [hk, he], h0⟩ ?_)
  rintro n e1 H1 ⟨vs, he1, hI⟩
  refine AW.keepE ks ?_
  rw [he1]
  refine AW_of_flat (AWL_mono (fun x e' H' hx => ?_) (round n vs H1 hI))
  cases x with
  | normal => obtain ⟨n', vs', h1, h2, h3⟩ := hx; exact ⟨n', h1, vs', h2, h3⟩
  | exit i => exact hx
  | goto i => exact hx
  | ret => exact hx
theorem b_eqlS {t : TypeId} {l : Bool} (a b : List UInt8) : binV P .eql t l (.str a) (.str b) = some (.bool (a == b)) := by simp [binV, aBin]
theorem b_neqS {t : TypeId} {l : Bool} (a b : List UInt8) : binV P .neq t l (.str a) (.str b) = some (.bool !(a == b)) := by simp [binV, aBin]
theorem b_addS {t : TypeId} {l : Bool} {a b : List UInt8} (h : a.length + b.length ≤ 1073741824) : binV P .add t l (.str a) (.str b) = some (.str (a ++ b)) := by simp [binV, aBin, h]
end
attribute [simp] b_eqlS b_neqS
@[simp] theorem len9 (s : List UInt8) : aLen Try.prog 9 (.str s) = some (.int .i64 s.length) := by simp [aLen]
@[simp] theorem range9 (H : AH) (s : List UInt8) : aRange Try.prog H 9 (.str s) = some (some (.iter H.length), H ++ [.iter s 0]) := by simp [aRange]
theorem ix9 {s : List UInt8} {i : Nat} (h : i < s.length) (k : IntKind) : aIndex Try.prog 9 (.str s) (.int k (i : Int)) = some (.int .u8 (s[i].toNat : Nat)) := by simp [aIndex, h]
theorem sl9 {s : List UInt8} {a b : Nat} (h1 : a ≤ b) (h2 : b ≤ s.length) (k k' : IntKind) : aSlice Try.prog 9 (.str s) (some (.int k (a : Int))) (some (.int k' (b : Int))) none = some (.str ((s.drop a).take (b - a))) := by
  simp [aSlice, aBounds, aBound]
  rw [if_pos (by omega)]
  simp
  rw [if_pos (by omega)]
  simp
theorem slTo9 {s : List UInt8} {b : Nat} (h2 : b ≤ s.length) (k' : IntKind) : aSlice Try.prog 9 (.str s) none (some (.int k' (b : Int))) none = some (.str (s.take b)) := by
  simp [aSlice, aBounds, aBound]
  rw [if_pos (by omega)]
  simp
theorem slFrom9 {s : List UInt8} {a : Nat} (h1 : a ≤ s.length) (k : IntKind) : aSlice Try.prog 9 (.str s) (some (.int k (a : Int))) none none = some (.str (s.drop a)) := by
  simp [aSlice, aBounds, aBound]
  rw [if_pos (by omega)]
  simp
  exact List.take_of_length_le (by simp)
/-- Letters below 128 are a byte each. -/
theorem enc_ascii {n : Int} (h : 0 ≤ n) (h2 : n < 128) : Utf8.encode n = ⟨#[UInt8.ofNat n.toNat]⟩ := by
  unfold Utf8.encode Utf8.valid
  have e1 : decide (0 ≤ n) = true := by simp [h]
  have e2 : decide (n < 55296) = true := by simp; omega
  simp only [e1, e2, Bool.true_and, Bool.true_or, if_true]
  rw [if_pos (by omega)]
theorem fold_ascii : ∀ (ns : List Int) (s : ByteArray), (∀ n ∈ ns, 0 ≤ n ∧ n < 128) → (ns.foldl (fun r n => r ++ Utf8.encode n) s).data.toList = s.data.toList ++ ns.map fun n => UInt8.ofNat n.toNat
  | [], s, _ => by simp
  | n :: ns, s, h => by
    have h1 := h n (by simp)
    rw [List.foldl_cons, fold_ascii ns _ fun m hm => h m (List.mem_cons_of_mem _ hm), enc_ascii h1.1 h1.2, List.map_cons]
    rw [ByteArray.data_append]
    simp
theorem runes_ascii {ns : List Int} (h : ∀ n ∈ ns, 0 ≤ n ∧ n < 128) : (runesBytes ns).data.toList = ns.map fun n => UInt8.ofNat n.toNat := by
  have := fold_ascii ns ByteArray.empty h
  unfold runesBytes
  rw [this]
  rfl
theorem runes72 {H : AH} {r off len ver : Nat} {full : Bool} {ns : List Int} (h : ldn H r ver len off = some (ns.map (AV.int .i32))) : aRunes Try.prog H 72 9 (.slice (some r) off len ver 1 full) = some (.str (runesBytes ns).data.toList) := by
  simp [aRunes, h, ints32_map]

/-! ### The library -/
theorem Repeat_ac (s : List UInt8) (H : AH) (Q : AV → AH → Prop) (hl : s.length ≤ 1000000) (h : Q (.str (s ++ s)) H) : AC Try.prog 55 [.str s, .int .i64 2] H Q := by
  refine (AC.ofBelow (cargs := #[.string ⟨s.toArray⟩, .int .i64 2]) (v := .str (s ++ s)) (c := .string ⟨(Lib.repeatL s 2).toArray⟩) (fun w => ?_) ?_ ?_ H).mono ?_
  · exact Try.strings_Repeat ⟨s.toArray⟩ 2 w (by omega) (by show s.toArray.size * 2 ≤ _; simp; omega)
  · intro σ cs hr
    obtain ⟨cs1, rfl, h1⟩ := relVs_str1 hr
    obtain ⟨cs2, rfl, h2⟩ := relVs_int1 h1
    rw [relVs_nil1 h2]
  · intro σ
    have e : s ++ s = (⟨(Lib.repeatL s 2).toArray⟩ : ByteArray).data.toList := by simp [Lib.repeatL]
    rw [e]; exact .str _
  · rintro v H' ⟨rfl, rfl⟩; exact h
/-- The library's variable is there. -/
def GM (m : Int) (H : AH) : Prop := gfind H 0 = some [.int .i64 m]
theorem GM.ext {m : Int} {H H' : AH} (h : GM m H) (hE : Ext H H') : GM m H' := hE.gv h
theorem Index_ac {m : Int} (s sub : List UInt8) (H : AH) (Q : AV → AH → Prop) (hl : s.length ≤ 1000000) (hg : GM m H) (h : Q (.int .i64 (Lib.index s sub)) H) : AC Try.prog 42 [.str s, .str sub] H Q := by
  refine (AC.ofBelowG (cargs := #[.string ⟨s.toArray⟩, .string ⟨sub.toArray⟩]) (v := .int .i64 (Lib.index s sub)) (c := .int .i64 (Lib.index s sub)) hg (fun w hw => ?_) ?_ ?_).mono ?_
  · exact (Try.strings_Index ⟨s.toArray⟩ ⟨sub.toArray⟩ m w (by show s.toArray.size < _; simp; omega) hw).mono fun e w' ⟨h1, h2⟩ => ⟨h1, h2 ▸ .refl _ _⟩
  · intro σ cs hr
    obtain ⟨cs1, rfl, h1⟩ := relVs_str1 hr
    obtain ⟨cs2, rfl, h2⟩ := relVs_str1 h1
    rw [relVs_nil1 h2]
  · intro σ; exact .int _ _
  · rintro v H' ⟨rfl, rfl⟩; exact h
theorem CountB_ac (s : List UInt8) (c : UInt8) (H : AH) (Q : AV → AH → Prop) (h : Q (.int .i64 (s.count c)) H) : AC Try.prog 41 [.str s, .str [c]] H Q := by
  refine (AC.ofBelow (cargs := #[.string ⟨s.toArray⟩, .string ⟨#[c]⟩]) (v := .int .i64 (s.count c)) (c := .int .i64 (s.count c)) (fun w => ?_) ?_ ?_ H).mono ?_
  · exact (Try.strings_Count_one ⟨s.toArray⟩ c w).mono fun e w' ⟨h1, h2⟩ => ⟨h1, h2 ▸ .refl _ _⟩
  · intro σ cs hr
    obtain ⟨cs1, rfl, h1⟩ := relVs_str1 hr
    obtain ⟨cs2, rfl, h2⟩ := relVs_str1 h1
    rw [relVs_nil1 h2]
  · intro σ; exact .int _ _
  · rintro v H' ⟨rfl, rfl⟩; exact h
end Go.Proofs.Ytlghgbdelmiakaa

/- Words of letters a and b: parts, what proves them uneven, turns; no program. -/
namespace Go.Proofs.Ytlghgbdelmiakaa

def okW (w : List UInt8) : Bool := w.all fun c => c == 97 || c == 98
def chk (w : List UInt8) : Int := if w.length = 0 then 4 else if 16 < w.length then 3 else if okW w then 0 else 10
def bnd (w : List UInt8) : Nat := w.count 98
def win (w : List UInt8) (i len : Nat) : List UInt8 := ((w ++ w).drop i).take len
/-- How many letters b the part has that begins at letter i. -/
def bb (w : List UInt8) (len i : Nat) : Nat := bnd (win w i len)
def most (w : List UInt8) (str : Bool) (len : Nat) : Nat := if str then w.length - len + 1 else w.length
def pr (b : Nat → Nat) (a c : Nat) : Bool := decide (b c + 2 ≤ b a)
theorem pr_false {b : Nat → Nat} {a c : Nat} : pr b a c = false ↔ b a ≤ b c + 1 := by
  simp only [pr, decide_eq_false_iff_not]; omega
theorem pr_true {b : Nat → Nat} {a c : Nat} : pr b a c = true ↔ b c + 2 ≤ b a := by simp [pr]
def clA (b : Nat → Nat) (m : Nat) : Option (Nat × Nat) := (List.range' 0 m).findSome? fun a => (List.range' 0 m).findSome? fun c => if pr b a c then some (a, c) else none
def clW (w : List UInt8) (str : Bool) : Option (Nat × Nat × Nat) := (List.range' 1 w.length).findSome? fun len => (clA (bb w len) (most w str len)).map fun x => (x.1, x.2, len)
def evenB (w : List UInt8) : Bool := (clW w false).isNone
def strB (w : List UInt8) : Bool := (clW w true).isNone

theorem fs_none {α : Type} {f : Nat → Option α} : ∀ {n s : Nat}, (∀ j, s ≤ j → j < s + n → f j = none) → (List.range' s n).findSome? f = none
  | 0, _, _ => rfl
  | n + 1, s, h => by
    rw [List.range'_succ, List.findSome?_cons, h s (by omega) (by omega)]
    exact fs_none fun j h1 h2 => h j (by omega) (by omega)
theorem fs_some {α : Type} {f : Nat → Option α} {x : α} : ∀ {n s k : Nat}, s ≤ k → k < s + n → f k = some x → (∀ j, s ≤ j → j < k → f j = none) → (List.range' s n).findSome? f = some x
  | 0, _, _, _, _, _, _ => by omega
  | n + 1, s, k, h1, h2, h3, h4 => by
    rw [List.range'_succ, List.findSome?_cons]
    by_cases e : k = s
    · subst e; rw [h3]
    · rw [h4 s (by omega) (by omega)]
      exact fs_some (by omega) (by omega) h3 fun j a b => h4 j (by omega) b
theorem fs_isNone {α : Type} {f : Nat → Option α} {n s : Nat} : (List.range' s n).findSome? f = none ↔ ∀ j, s ≤ j → j < s + n → f j = none := by
  refine ⟨fun h j h1 h2 => ?_, fs_none⟩
  exact List.findSome?_eq_none_iff.1 h j (List.mem_range'_1.2 ⟨h1, h2⟩)

theorem clA_none {b : Nat → Nat} {m : Nat} : clA b m = none ↔ ∀ a c, a < m → c < m → pr b a c = false := by
  unfold clA
  rw [fs_isNone]
  constructor
  · intro h a c ha hc
    have := fs_isNone.1 (h a (by omega) (by omega)) c (by omega) (by omega)
    cases hp : pr b a c with
    | false => rfl
    | true => simp [hp] at this
  · intro h a _ ha
    exact fs_none fun c _ hc => by simp [h a c (by omega) (by omega)]
theorem clA_some {b : Nat → Nat} {m a c : Nat} (ha : a < m) (hc : c < m) (h : pr b a c = true) (h1 : ∀ c', c' < c → pr b a c' = false) (h2 : ∀ a' c', a' < a → c' < m → pr b a' c' = false) : clA b m = some (a, c) := by
  unfold clA
  refine fs_some (k := a) (by omega) (by omega) ?_ fun j _ hj => fs_none fun c' _ hc' => by simp [h2 j c' hj (by omega)]
  exact fs_some (k := c) (by omega) (by omega) (by simp [h]) fun j _ hj => by simp [h1 j hj]
theorem clA_min {b : Nat → Nat} {m a : Nat} (ha : a < m) (h2 : ∀ a' c', a' < a → c' < m → pr b a' c' = false) {c0 : Nat} (hc0 : c0 < m) (h0 : pr b a c0 = true) : ∃ c, clA b m = some (a, c) ∧ c < m ∧ pr b a c = true ∧ ∀ c', c' < c → pr b a c' = false := by
  have key : ∃ c, c < m ∧ pr b a c = true ∧ ∀ c', c' < c → pr b a c' = false := by
    induction c0 using Nat.strongRecOn with
    | _ c0 ih =>
      by_cases h : ∃ c', c' < c0 ∧ pr b a c' = true
      · obtain ⟨c', h3, h4⟩ := h
        exact ih c' h3 (by omega) h4
      · refine ⟨c0, hc0, h0, fun c' hc' => ?_⟩
        cases hp : pr b a c' with
        | false => rfl
        | true => exact absurd ⟨c', hc', hp⟩ h
  obtain ⟨c, h3, h4, h5⟩ := key
  exact ⟨c, clA_some ha h3 h4 h5 h2, h3, h4, h5⟩

theorem clW_none {w : List UInt8} {str : Bool} : clW w str = none ↔ ∀ len, 1 ≤ len → len ≤ w.length → clA (bb w len) (most w str len) = none := by
  unfold clW
  rw [fs_isNone]
  constructor
  · intro h len h1 h2
    have := h len h1 (by omega)
    simpa using this
  · intro h len h1 h2
    rw [h len h1 (by omega)]; rfl
theorem clW_some {w : List UInt8} {str : Bool} {len a c : Nat} (h1 : 1 ≤ len) (h2 : len ≤ w.length) (h : clA (bb w len) (most w str len) = some (a, c)) (h3 : ∀ l, 1 ≤ l → l < len → clA (bb w l) (most w str l) = none) : clW w str = some (a, c, len) := by
  unfold clW
  exact fs_some (k := len) h1 (by omega) (by rw [h]; rfl) fun l a b => by rw [h3 l a b]; rfl
theorem bnd_le (w : List UInt8) : bnd w ≤ w.length := List.count_le_length
theorem bb_le {w : List UInt8} {i len : Nat} : bb w len i ≤ len := by
  refine Nat.le_trans (bnd_le _) ?_
  simp [win]; omega
theorem okW_sub {w v : List UInt8} (h : okW w = true) (hs : ∀ x ∈ v, x ∈ w) : okW v = true := by
  simp only [okW, List.all_eq_true] at h ⊢
  exact fun x hx => h x (hs x hx)
theorem okW_take {w : List UInt8} (h : okW w = true) (n : Nat) : okW (w.take n) = true := okW_sub h fun _ hx => List.mem_of_mem_take hx
theorem okW_drop {w : List UInt8} (h : okW w = true) (n : Nat) : okW (w.drop n) = true := okW_sub h fun _ hx => List.mem_of_mem_drop hx
theorem okW_app {w v : List UInt8} (h : okW w = true) (k : okW v = true) : okW (w ++ v) = true := by
  simp only [okW, List.all_append, Bool.and_eq_true]; exact ⟨h, k⟩
theorem okW_get {w : List UInt8} (h : okW w = true) {i : Nat} (hi : i < w.length) : w[i] = 97 ∨ w[i] = 98 := by
  simp only [okW, List.all_eq_true] at h
  have := h _ (List.getElem_mem hi)
  simpa using this
/-- A straight part is one of the round. -/
theorem win_straight {w : List UInt8} {i len : Nat} (h : i + len ≤ w.length) : win w i len = (w.drop i).take len := by
  unfold win
  rw [List.drop_append_of_le_length (by omega), List.take_append_of_le_length (by simp; omega)]
theorem bb_straight {w : List UInt8} {i len : Nat} (h : i + len ≤ w.length) : bb w len i = bnd ((w.drop i).take len) := by unfold bb; rw [win_straight h]
/-- A part of the word, written on from its beginning. -/
theorem win_on {w : List UInt8} {i len l : Nat} (h : i + len ≤ l) : (((w ++ w).take l).drop i).take len = win w i len := by
  unfold win
  rw [List.drop_take, List.take_take, Nat.min_eq_left (by omega)]
/-! ### Turns -/
def turnS (w : List UInt8) (s : Nat) : List UInt8 := w.drop s ++ w.take s
theorem win_turn {w : List UInt8} {s : Nat} (h : s ≤ w.length) : win w s w.length = turnS w s := by
  unfold win turnS
  rw [List.drop_append_of_le_length h, List.take_append, List.length_drop]
  rw [List.take_of_length_le (by simp)]
  congr 2
  omega
theorem turnS_zero (w : List UInt8) : turnS w 0 = w := by simp [turnS]
theorem turnS_all (w : List UInt8) : turnS w w.length = w := by simp [turnS]
theorem bnd_turn (w : List UInt8) (s : Nat) : bnd (turnS w s) = bnd w := by
  unfold bnd turnS
  rw [List.count_append, Nat.add_comm, ← List.count_append, List.take_append_drop]
theorem bb_full {w : List UInt8} {i : Nat} (h : i < w.length) : bb w w.length i = bnd w := by
  unfold bb
  rw [win_turn (by omega), bnd_turn]
theorem clA_full (w : List UInt8) (str : Bool) (h : 0 < w.length) : clA (bb w w.length) (most w str w.length) = none := by
  rw [clA_none]
  intro a c ha hc
  have hm : most w str w.length ≤ w.length := by unfold most; split <;> omega
  rw [pr_false, bb_full (by omega), bb_full (by omega)]
  omega
/-- The smallest turn from a number on that makes a word of another one. -/
def sameS (a b : List UInt8) (s : Nat) : Option Nat := (List.range' s (a.length - s)).findSome? fun i => if turnS a i = b then some i else none
/-! ### The even word -/
def madeS (n k : Nat) : List UInt8 := (List.range n).map fun i => if (i + 1) * k / n = i * k / n then 97 else 98
theorem madeS_len (n k : Nat) : (madeS n k).length = n := by simp [madeS]
theorem madeS_ok (n k : Nat) : okW (madeS n k) = true := by
  simp only [okW, madeS, List.all_map, List.all_eq_true]
  intro i _
  simp only [Function.comp]
  split <;> rfl
def splitS (n k : Nat) : Option Nat := (List.range' 1 (n - 1)).findSome? fun m => if m * k % n = 1 then some m else none
/-- The place of the letter b with a number. -/
def nthB : List UInt8 → Nat → Nat
  | [], _ => 0
  | c :: w, j => if c = 98 then (match j with | 0 => 0 | j + 1 => nthB w j + 1) else nthB w j + 1
def phi (i : Nat) : Nat := ((List.range' 1 i).filter fun k => Nat.gcd i k == 1).length
def cntS (n : Nat) : Nat := 1 + ((List.range' 1 n).map fun i => (n - i + 1) * phi i).sum
end Go.Proofs.Ytlghgbdelmiakaa

/- Words are checked, and numbers. -/
namespace Go.Proofs.Ytlghgbdelmiakaa
open Go Go.Proofs.Ytlghgbdelmiakaa.AX

theorem isRound_ac (n : Int) (H : AH) (Q : AV → AH → Prop) (h : Q (.bool (decide (1 ≤ n ∧ n ≤ 16))) H) : AC Try.prog 62 [.int .i64 n] H Q := by
  refine L_body 9 Try.func62 rfl rfl ?_
  refine L_reg [0] (fun K hK => ?_)
  simp
  apply hK; clear hK K
  by_cases h1 : 1 ≤ n
  · refine L_reg [2] (fun K hK => ?_)
    simp [h1, pickV]
    apply hK; clear hK K
    exact L_ret ⟨.inr rfl, _, rfl, by simpa [h1] using h⟩
  · refine L_reg [2] (fun K hK => ?_)
    simp [h1, pickV]
    apply hK; clear hK K
    exact L_ret ⟨.inr rfl, _, rfl, by simpa [h1] using h⟩
theorem isLetter_ac (w : List UInt8) (n : Int) (H : AH) (Q : AV → AH → Prop) (h : Q (.bool (decide (0 ≤ n ∧ n < w.length))) H) : AC Try.prog 46 [.str w, .int .i64 n] H Q := by
  refine L_body 13 Try.func46 rfl rfl ?_
  refine L_reg [0, 1] (fun K hK => ?_)
  simp
  apply hK; clear hK K
  by_cases h1 : 0 ≤ n
  · refine L_reg [4] (fun K hK => ?_)
    simp [h1, pickV]
    apply hK; clear hK K
    exact L_ret ⟨.inr rfl, _, rfl, by simpa [h1] using h⟩
  · refine L_reg [4] (fun K hK => ?_)
    simp [h1, pickV]
    apply hK; clear hK K
    exact L_ret ⟨.inr rfl, _, rfl, by simpa [h1] using h⟩
/-- The error of boxes and bands. -/
def bdE (n k : Int) : Int := if 1 ≤ n ∧ n ≤ 16 ∧ 0 ≤ k ∧ k ≤ n then 0 else 1
theorem checkBands_ac (n k : Int) (H : AH) (Q : AV → AH → Prop) (h : Q (.int .i64 (bdE n k)) H) : AC Try.prog 50 [.int .i64 n, .int .i64 k] H Q := by
  refine L_body 17 Try.func50 rfl rfl ?_
  unfold bdE at h
  refine L_reg [0, 1] (fun K hK => ?_)
  simp
  apply hK; clear hK K
  by_cases h1 : 1 ≤ n ∧ n ≤ 16
  · by_cases h2 : k < 0
    · refine L_reg [0, 1, 16] (fun K hK => ?_)
      simp [okFn_low]
      refine isRound_ac _ _ _ ?_
      simp [h1, h2, pickV]
      apply hK; clear hK K
      refine L_true (by simp) ?_
      refine L_reg [4] (fun K hK => ?_)
      simp
      apply hK; clear hK K
      exact L_ret ⟨.inr rfl, _, rfl, by simpa [show ¬ (1 ≤ n ∧ n ≤ 16 ∧ 0 ≤ k ∧ k ≤ n) by omega] using h⟩
    · refine L_reg [0, 1, 16] (fun K hK => ?_)
      simp [okFn_low]
      refine isRound_ac _ _ _ ?_
      simp [h1, h2, pickV]
      apply hK; clear hK K
      refine L_dec (n < k) (by simp) (fun h3 => ?_) (fun h3 => ?_)
      · refine L_reg [4] (fun K hK => ?_)
        simp
        apply hK; clear hK K
        exact L_ret ⟨.inr rfl, _, rfl, by simpa [show ¬ (1 ≤ n ∧ n ≤ 16 ∧ 0 ≤ k ∧ k ≤ n) by omega] using h⟩
      · refine L_reg [4] (fun K hK => ?_)
        simp
        apply hK; clear hK K
        exact L_ret ⟨.inr rfl, _, rfl, by simpa [show (1 ≤ n ∧ n ≤ 16 ∧ 0 ≤ k ∧ k ≤ n) by omega] using h⟩
  · refine L_reg [0, 1, 16] (fun K hK => ?_)
    simp [okFn_low]
    refine isRound_ac _ _ _ ?_
    simp [h1, pickV]
    apply hK; clear hK K
    refine L_true (by simp) ?_
    refine L_reg [4] (fun K hK => ?_)
    simp
    apply hK; clear hK K
    exact L_ret ⟨.inr rfl, _, rfl, by simpa [show ¬ (1 ≤ n ∧ n ≤ 16 ∧ 0 ≤ k ∧ k ≤ n) by omega] using h⟩
/-! ### Words -/
theorem okW_upto {w : List UInt8} (h : ∀ j (h : j < w.length), w[j] = 97 ∨ w[j] = 98) : okW w = true := by
  simp only [okW, List.all_eq_true]
  intro x hx
  obtain ⟨j, hj, rfl⟩ := List.mem_iff_getElem.1 hx
  rcases h j hj with e | e <;> simp [e]
theorem okW_not {w : List UInt8} {j : Nat} (h : j < w.length) (h1 : ¬ (w[j] = 97 ∨ w[j] = 98)) : okW w = false := by
  cases hk : okW w with
  | false => rfl
  | true => exact absurd (okW_get hk h) h1
theorem iter_end {H : AH} {w : List UInt8} {i : Nat} (h : w.length ≤ i) : aNext (H ++ [.iter w i]) (.iter H.length) true = some (some (.tuple [.bool false]), H ++ [.iter w i]) := next_end (by simp) h
theorem iter_ascii {H : AH} {w : List UInt8} {i : Nat} (h : i < w.length) (h2 : w[i].toNat < 128) : aNext (H ++ [.iter w i]) (.iter H.length) true = some (some (.tuple [.bool true, .int .i64 i, .int .i32 (w[i].toNat : Nat)]), H ++ [.iter w (i + 1)]) := by
  rw [next_ascii (by simp) h h2]; simp
theorem iter_big {H : AH} {w : List UInt8} {i : Nat} (h : i < w.length) (h2 : 128 ≤ w[i].toNat) : ∃ c k : Nat, 128 ≤ c ∧ aNext (H ++ [.iter w i]) (.iter H.length) true = some (some (.tuple [.bool true, .int .i64 i, .int .i32 c]), H ++ [.iter w (i + k)]) := by
  obtain ⟨c, k, h3, h4⟩ := next_big (H := H ++ [.iter w i]) (r := H.length) (by simp) h h2
  exact ⟨c, k, h3, by rw [h4]; simp⟩
theorem eq0 (n : Nat) : (((n : Nat) : Int) == 0) = decide (n = 0) := by rw [Bool.eq_iff_iff]; simp
theorem toNat_ne {c : UInt8} {k : Nat} (_hk : k < 256) (h : c ≠ UInt8.ofNat k) : ((c.toNat : Int) != (k : Int)) = true := by
  rw [bne_iff_ne]
  intro e
  have e2 : c.toNat = k := by omega
  exact h (by rw [← e2, UInt8.ofNat_toNat])
theorem Check_e (w : List UInt8) (H : AH) (Q : AV → AH → Prop) (h : ∀ H', Ext H H' → Q (.int .i64 (chk w)) H') : AC Try.prog 19 [.str w] H Q := by
  refine L_body 22 Try.func19 rfl rfl ?_
  unfold chk at h
  refine L_reg [0] (fun K hK => ?_)
  simp
  apply hK; clear hK K
  refine L_reg [0, 7] (fun K hK => ?_)
  simp
  apply hK; clear hK K
  refine L_dec (w.length = 0) (by simp only [oval, eget, eq0]; simp) (fun h0 => ?_) (fun h0 => ?_)
  · refine L_reg [2] (fun K hK => ?_)
    simp
    apply hK; clear hK K
    exact L_ret ⟨.inr rfl, _, rfl, by simpa [h0] using h H (.refl _)⟩
  refine L_reg [0, 10] (fun K hK => ?_)
  simp
  apply hK; clear hK K
  refine L_dec (16 < w.length) (by simp; omega) (fun h1 => ?_) (fun h1 => ?_)
  · refine L_reg [2] (fun K hK => ?_)
    simp
    apply hK; clear hK K
    exact L_ret ⟨.inr rfl, _, rfl, by simpa [h0, h1] using h H (.refl _)⟩
  refine L_reg [12] (fun K hK => ?_)
  simp
  apply hK; clear hK K
  refine L_block (L_loopK [12] [] (fun n vs H' => ∃ i : Nat, n = w.length - i ∧ i ≤ w.length ∧ (∀ j (h : j < w.length), j < i → w[j] = 97 ∨ w[j] = 98) ∧ vs = [] ∧ H' = H ++ [.iter w i]) _ [] rfl rfl ⟨0, rfl, by omega, fun j _ hj => by omega, rfl, rfl⟩ ?_)
  rintro n _ _ ⟨i, rfl, hi, hno, rfl, rfl⟩
  have hE : ∀ k, Ext H (H ++ [AObj.iter w k]) := fun k => .push _ _
  by_cases hlt : i < w.length
  · by_cases hb : w[i].toNat < 128
    · have hia := iter_ascii (H := H) hlt hb
      have hno' : (w[i] = 97 ∨ w[i] = 98) → ∀ j (h : j < w.length), j < i + 1 → w[j] = 97 ∨ w[j] = 98 := fun hf j hj hji => by
        by_cases ej : j = i
        · subst ej; exact hf
        · exact hno j hj (by omega)
      have hbad : ¬ (w[i] = 97 ∨ w[i] = 98) → okW w = false := okW_not hlt
      generalize w[i] = c at hia hno' hbad
      refine L_reg [12, 13, 14] (fun K hK => ?_)
      simp [hia]
      apply hK; clear hK K
      refine L_true (by simp) ?_
      refine L_block ?_
      refine L_reg [4, 12] (fun K hK => ?_)
      simp
      apply hK; clear hK K
      by_cases e1 : c = 97
      · subst e1
        refine L_reg [12, 21] (fun K hK => ?_)
        simp [pickV]
        apply hK; clear hK K
        refine L_false (by simp) ?_
        exact ⟨w.length - (i + 1), [], by omega, by simp, i + 1, rfl, by omega, hno' (.inl rfl), rfl, rfl⟩
      by_cases e2 : c = 98
      · subst e2
        refine L_reg [12, 21] (fun K hK => ?_)
        simp [pickV]
        apply hK; clear hK K
        refine L_false (by simp) ?_
        exact ⟨w.length - (i + 1), [], by omega, by simp, i + 1, rfl, by omega, hno' (.inr rfl), rfl, rfl⟩
      have n1 := toNat_ne (c := c) (k := 97) (by omega) e1
      have n2 := toNat_ne (c := c) (k := 98) (by omega) e2
      simp only [Int.cast_ofNat_Int] at n1 n2
      refine L_reg [12, 21] (fun K hK => ?_)
      simp [pickV, n1, n2]
      apply hK; clear hK K
      refine L_true (by simp) ?_
      refine L_reg [2] (fun K hK => ?_)
      simp
      apply hK; clear hK K
      exact L_ret ⟨.inr rfl, _, rfl, by simpa [h0, h1, hbad (by simp [e1, e2])] using h _ (hE _)⟩
    · obtain ⟨c, k, h3, hia⟩ := iter_big (H := H) hlt (by omega)
      have hbad : okW w = false := okW_not hlt (by rintro (e | e) <;> · rw [e] at hb; exact hb (by decide))
      refine L_reg [12, 13, 14] (fun K hK => ?_)
      simp [hia]
      apply hK; clear hK K
      refine L_true (by simp) ?_
      refine L_block ?_
      refine L_reg [4, 12] (fun K hK => ?_)
      simp
      apply hK; clear hK K
      have n1 : ((c : Int) != 97) = true := by rw [bne_iff_ne]; omega
      have n2 : ((c : Int) != 98) = true := by rw [bne_iff_ne]; omega
      refine L_reg [12, 21] (fun K hK => ?_)
      simp [pickV, n1, n2]
      apply hK; clear hK K
      refine L_true (by simp) ?_
      refine L_reg [2] (fun K hK => ?_)
      simp
      apply hK; clear hK K
      exact L_ret ⟨.inr rfl, _, rfl, by simpa [h0, h1, hbad] using h _ (hE _)⟩
  · refine L_reg [12, 13, 14] (fun K hK => ?_)
    simp [iter_end (H := H) (w := w) (i := i) (by omega)]
    apply hK; clear hK K
    refine L_false (by simp) ?_
    refine L_exit ?_
    refine L_reg [2] (fun K hK => ?_)
    simp
    apply hK; clear hK K
    exact L_ret ⟨.inr rfl, _, rfl, by simpa [h0, h1, okW_upto (fun j hj => hno j hj (by omega))] using h _ (hE i)⟩
theorem Check_ac (w : List UInt8) (H : AH) (Q : AV → AH → Prop) (h : Q (.int .i64 (chk w)) H) : AC Try.prog 19 [.str w] H Q :=
  AC.quiet (belB_int _ _ _ _) (fun Q h => Check_e w H Q h) Q h
end Go.Proofs.Ytlghgbdelmiakaa

/- How many letters b parts have. -/
namespace Go.Proofs.Ytlghgbdelmiakaa
open Go Go.Proofs.Ytlghgbdelmiakaa.AX

def g (l : List Int) (i : Nat) : Int := l.getD i 0
theorem g_lt {l : List Int} {i : Nat} (h : i < l.length) : l[i] = g l i := by simp [g, List.getD_eq_getElem?_getD, h]
theorem ls_len {H : AH} {v : AV} {l : List Int} (h : Ls H v l) : aLen Try.prog 44 v = some (.int .i64 l.length) := by
  obtain ⟨r, off, ver, sz, full, rfl, -⟩ := h
  exact len44 ..
theorem ls_ix {H : AH} {v : AV} {l : List Int} (h : Ls H v l) {i : Nat} (hi : i < l.length) : ∃ r p ver, (∀ k, aIndexAddr Try.prog 44 v (.int k (i : Int)) = some (.ptr r p ver)) ∧ ld H r p ver = some (.int .i64 (g l i)) := by
  obtain ⟨r, off, ver, sz, full, rfl, hld⟩ := h
  obtain ⟨r', rfl, rfl, hx⟩ := hld i hi
  rw [g_lt hi] at hx
  exact ⟨r', off + i, ver, fun k => by simp [hi], hx⟩
theorem tmod_nat (a b : Nat) : ((a : Int)).tmod (b : Int) = ((a % b : Nat) : Int) := by rw [Int.tmod_eq_emod_of_nonneg (by omega)]; rfl
theorem tdiv_nat (a b : Nat) : ((a : Int)).tdiv (b : Int) = ((a / b : Nat) : Int) := by rw [Int.tdiv_eq_ediv_of_nonneg (by omega)]; rfl
/-- A cell of a row is written. -/
theorem st_cell {t : TypeId} (sc : scal Try.prog t = true) {H : AH} {r off s : Nat} {c : List AV} {x y : AV} (hr : H[r]? = some (.row c 0 s false)) (hx : x.one = true) (hy : known c[off]? = some y) :
    ∃ H' s', storeV Try.prog t H (.ptr r off 0) x = some (none, H') ∧ H'[r]? = some (.row (c.set off x) 0 s' false) ∧ H'.length = H.length ∧ ∀ j, j ≠ r → H'[j]? = H[j]? :=
  ⟨_, _, store_row sc hx hr hy, get_set hr, by simp, fun j hj => by rw [List.getElem?_set_ne (Ne.symm hj)]⟩

def cl (b : Nat → Nat) (m : Nat) : List Int := (List.range m).map fun i => (b i : Int)
@[simp] theorem cl_len (b : Nat → Nat) (m : Nat) : (cl b m).length = m := by simp [cl]
theorem cl_g {b : Nat → Nat} {m i : Nat} (h : i < m) : g (cl b m) i = b i := by simp [g, cl, List.getD_eq_getElem?_getD, h]
theorem cl_take {b : Nat → Nat} {m i : Nat} (h : i < m) : (cl b m).take (i + 1) = (cl b m).take i ++ [(b i : Int)] := by
  rw [List.take_add_one]
  congr 1
  simp [cl, h]
theorem bnd_succ {w : List UInt8} {i : Nat} (h : i < w.length) : bnd (w.take (i + 1)) = bnd (w.take i) + if w[i] = 98 then 1 else 0 := by
  unfold bnd
  rw [List.take_add_one, List.getElem?_eq_getElem h, List.count_append]
  simp [List.count_singleton]
theorem bandsOf_e (w : List UInt8) (H : AH) (Q : AV → AH → Prop) (hw : okW w = true) (hl : w.length ≤ 1000000) (h : ∀ H', Ext H H' → Q (.int .i64 (bnd w)) H') : AC Try.prog 78 [.str w] H Q := by
  refine L_body 16 Try.func78 rfl rfl ?_
  refine L_reg [0] (fun K hK => ?_)
  simp
  apply hK; clear hK K
  refine L_reg [0, 3] (fun K hK => ?_)
  simp
  apply hK; clear hK K
  refine L_reg [3, 7] (fun K hK => ?_)
  simp
  apply hK; clear hK K
  refine L_block (L_loopK [3, 7] [3] (fun n vs H' => ∃ i : Nat, n = w.length - i ∧ i ≤ w.length ∧ vs = [.int .i64 (bnd (w.take i))] ∧ H' = H ++ [.iter w i]) _ [.int .i64 0] rfl rfl ⟨0, rfl, by omega, rfl, rfl⟩ ?_)
  rintro n _ _ ⟨i, rfl, hi, rfl, rfl⟩
  by_cases hlt : i < w.length
  · have hab := okW_get hw hlt
    have hs := bnd_succ hlt
    have hle := bnd_le (w.take i)
    rw [List.length_take] at hle
    have hia := iter_ascii (H := H) hlt (by rcases hab with e | e <;> rw [e] <;> decide)
    generalize w[i] = c at hab hs hia
    refine L_reg [3, 7, 8, 9] (fun K hK => ?_)
    simp [hia]
    apply hK; clear hK K
    refine L_true (by simp) ?_
    refine L_block ?_
    refine L_reg [3, 5, 7] (fun K hK => ?_)
    simp
    apply hK; clear hK K
    rcases hab with rfl | rfl
    · refine L_reg [3, 7, 12] (fun K hK => ?_)
      simp
      apply hK; clear hK K
      refine L_false (by simp) ?_
      exact ⟨w.length - (i + 1), [.int .i64 (bnd (w.take (i + 1)))], by omega, by simp [hs], i + 1, rfl, by omega, rfl, rfl⟩
    · refine L_reg [3, 7, 12] (fun K hK => ?_)
      simp
      apply hK; clear hK K
      refine L_true (by simp) ?_
      refine L_reg [3, 7] (fun K hK => ?_)
      simp [wrap_i64 (a := (bnd (w.take i) : Int) + 1) (by omega)]
      apply hK; clear hK K
      exact ⟨w.length - (i + 1), [.int .i64 (bnd (w.take (i + 1)))], by omega, by simp [hs], i + 1, rfl, by omega, rfl, rfl⟩
  · refine L_reg [3, 7, 8, 9] (fun K hK => ?_)
    simp [iter_end (H := H) (w := w) (i := i) (by omega)]
    apply hK; clear hK K
    refine L_false (by simp) ?_
    refine L_exit ?_
    refine L_reg [2] (fun K hK => ?_)
    simp
    apply hK; clear hK K
    exact L_ret ⟨.inr rfl, _, rfl, by rw [List.take_of_length_le (by omega)]; exact h _ (.push _ _)⟩
theorem bandsOf_ac (w : List UInt8) (H : AH) (Q : AV → AH → Prop) (hw : okW w = true) (hl : w.length ≤ 1000000) (h : Q (.int .i64 (bnd w)) H) : AC Try.prog 78 [.str w] H Q :=
  AC.quiet (belB_int _ _ _ _) (fun Q h => bandsOf_e w H Q hw hl h) Q h
theorem bandsAlong_ac (w : List UInt8) (len : Nat) (H : AH) (Q : AV → AH → Prop) (hw : okW w = true) (hl : w.length ≤ 1000) (hlen : len ≤ w.length)
    (h : ∀ v H', OwnF H.length H' v ((cl (fun i => bnd ((w.drop i).take len)) (w.length - len + 1)).map (.int .i64)) → Ext H H' → Q v H') : AC Try.prog 59 [.str w, .int .i64 len] H Q := by
  refine L_body 27 Try.func59 rfl rfl ?_
  generalize hL : w.length - len + 1 = L at h
  generalize hb : (fun i => bnd ((w.drop i).take len)) = b at h
  refine L_reg [0, 1] (fun K hK => ?_)
  simp
  apply hK; clear hK K
  refine L_reg [0, 1, 5] (fun K hK => ?_)
  simp
  apply hK; clear hK K
  have e1 : ((w.length : Int) - len) + 1 = (L : Int) := by omega
  refine L_reg [0, 1, 5, 11, 12] (fun K hK => ?_)
  simp [wrap_i64 (a := (w.length : Int) - len) (by omega), e1, wrap_i64 (a := (L : Int)) (by omega)]
  apply hK; clear hK K
  refine L_block (L_loopV [5, 12] (fun n vs H' => ∃ (i : Nat) (v : AV), n = L - i ∧ i ≤ L ∧ vs = [v, .int .i64 i] ∧ OwnF H.length H' v (((cl b L).take i).map (.int .i64)) ∧ Ext H H') _ [.slice none 0 0 0 1 false, .int .i64 0] rfl ⟨0, _, rfl, by omega, rfl, .nil _ _, .refl _⟩ ?_)
  rintro n _ H1 ⟨i, v, rfl, hi, rfl, hO, hE⟩
  refine L_reg [0, 1, 5, 11, 12, 13] (fun K hK => ?_)
  simp
  apply hK; clear hK K
  refine L_dec (i < L) (by simp) (fun hlt => ?_) (fun hge => L_exit ?_)
  · refine L_block ?_
    refine L_reg [0, 1, 5, 6, 11, 12] (fun K hK => ?_)
    simp
    apply hK; clear hK K
    have hsl := sl9 (s := w) (a := i) (b := i + len) (by omega) (by omega) .i64 .i64
    rw [show i + len - i = len by omega, show ((i + len : Nat) : Int) = (i : Int) + len by omega] at hsl
    have hbi : bnd ((w.drop i).take len) = b i := by rw [← hb]
    obtain ⟨v', H2, happ, hO2, hE2⟩ := ownF_append hE el44 el44 (x := .int .i64 (b i)) (m := 1) hO rfl (by simp; omega)
    refine L_reg [0, 1, 5, 11, 12] (fun K hK => ?_)
    simp [okFn_low, hsl, wrap_i64 (a := (i : Int) + len) (by omega)]
    refine bandsOf_ac _ _ _ (okW_take (okW_drop hw _) _) (by simp; omega) ?_
    simp [hbi, happ]
    apply hK; clear hK K
    refine L_reg [0, 1, 5, 11, 12] (fun K hK => ?_)
    simp [wrap_i64 (a := (i : Int) + 1) (by omega)]
    apply hK; clear hK K
    refine ⟨L - (i + 1), [v', .int .i64 (i + 1 : Nat)], by omega, by simp, i + 1, v', rfl, by omega, rfl, ?_, hE2⟩
    rw [cl_take (by omega)]
    simpa using hO2
  · rw [List.take_of_length_le (by simp; omega)] at hO
    refine L_reg [4] (fun K hK => ?_)
    simp
    apply hK; clear hK K
    exact L_ret ⟨.inr rfl, _, rfl, h v H1 hO hE⟩
theorem cl_congr {b b' : Nat → Nat} {m : Nat} (h : ∀ i, i < m → b i = b' i) : cl b m = cl b' m := by
  unfold cl
  refine List.map_congr_left fun i hi => ?_
  rw [h i (List.mem_range.1 hi)]
theorem bandsAround_ac (w : List UInt8) (len : Nat) (H : AH) (Q : AV → AH → Prop) (hw : okW w = true) (hl : w.length ≤ 100) (h1 : 1 ≤ len) (hlen : len ≤ w.length)
    (h : ∀ v H', OwnF H.length H' v ((cl (bb w len) w.length).map (.int .i64)) → Ext H H' → Q v H') : AC Try.prog 47 [.str w, .int .i64 len] H Q := by
  refine L_body 15 Try.func47 rfl rfl ?_
  refine L_reg [0, 1] (fun K hK => ?_)
  simp
  apply hK; clear hK K
  have hsl := slTo9 (s := w ++ w) (b := w.length + len - 1) (by simp; omega) .i64
  rw [show ((w.length + len - 1 : Nat) : Int) = (w.length : Int) + len - 1 by omega] at hsl
  have hlt : ((w ++ w).take (w.length + len - 1)).length = w.length + len - 1 := by simp; omega
  refine L_reg [4] (fun K hK => ?_)
  simp [okFn_low]
  refine Repeat_ac _ _ _ (by omega) ?_
  simp [okFn_low, hsl, wrap_i64 (a := (w.length : Int) + len) (by omega), wrap_i64 (a := (w.length : Int) + len - 1) (by omega)]
  refine bandsAlong_ac _ len _ _ (okW_take (okW_app hw hw) _) (by omega) (by omega) (fun v H' hO hE => ?_)
  simp
  apply hK; clear hK K
  have e : cl (fun i => bnd ((((w ++ w).take (w.length + len - 1)).drop i).take len)) (((w ++ w).take (w.length + len - 1)).length - len + 1) = cl (bb w len) w.length := by
    rw [hlt, show w.length + len - 1 - len + 1 = w.length by omega]
    refine cl_congr fun i hi => ?_
    show bnd _ = bb w len i
    rw [win_on (by omega)]; rfl
  rw [e] at hO
  exact L_ret ⟨.inr rfl, _, rfl, h v H' hO hE⟩
end Go.Proofs.Ytlghgbdelmiakaa

/- Two parts that differ too much. -/
namespace Go.Proofs.Ytlghgbdelmiakaa
open Go Go.Proofs.Ytlghgbdelmiakaa.AX

theorem IndexFunc_ac (v : AV) (l : List Int) (f : FuncId) (caps : List AV) (p : Int → Bool) (H : AH) (Q : AV → AH → Prop) (hlen : l.length ≤ 1000000) (hv : Ls H v l) (hok : okFn Try.prog f = true) (hp : ∀ x, x ∈ l → ∀ Q : AV → AH → Prop, Q (.bool (p x)) H → AC Try.prog f (.int .i64 x :: caps) H Q) (h1 : ∀ (i : Nat) (h : i < l.length), p l[i] = true → (∀ j (h : j < l.length), j < i → p l[j] = false) → Q (.int .i64 i) H) (h2 : (∀ x ∈ l, p x = false) → Q (.int .i64 (-1)) H) : AC Try.prog 69 [v, .func (.func f) [] caps] H Q := by
  obtain ⟨r, off, ver, sz, full, rfl, hld⟩ := hv
  refine L_body 19 Try.func69 rfl rfl ?_
  refine L_reg [0, 1] (fun K hK => ?_)
  simp
  apply hK; clear hK K
  refine L_reg [0, 1, 7, 8] (fun K hK => ?_)
  simp
  apply hK; clear hK K
  refine L_block (L_loopV [8] (fun n vs H' => ∃ i : Nat, n = l.length - i ∧ i ≤ l.length ∧ (∀ j (h : j < l.length), j < i → p l[j] = false) ∧ vs = [.int .i64 i] ∧ H = H') _ [.int .i64 0] rfl ⟨0, rfl, by omega, fun j _ hj => by omega, rfl, rfl⟩ ?_)
  rintro n _ _ ⟨i, rfl, hi, hno, rfl, rfl⟩
  refine L_reg [0, 1, 7, 8, 9] (fun K hK => ?_)
  simp
  apply hK; clear hK K
  refine L_dec (i < l.length) (by simp) (fun hlt => ?_) (fun hge => L_exit ?_)
  · refine L_block ?_
    obtain ⟨r', rfl, rfl, hrd⟩ := hld i hlt
    have hpi := hp l[i] (List.getElem_mem hlt)
    have h1i := h1 i hlt
    have hnoi : p l[i] = false → ∀ j (h : j < l.length), j < i + 1 → p l[j] = false := fun hf j hj hji => by
      by_cases ej : j = i
      · subst ej; exact hf
      · exact hno j hj (by omega)
    generalize l[i] = y at hrd hpi h1i hnoi
    refine L_reg [0, 1, 5, 7, 8] (fun K hK => ?_)
    simp
    apply hK; clear hK K
    refine L_reg [0, 1, 5, 7, 8, 16] (fun K hK => ?_)
    simp [hrd, hlt, hok]
    refine hpi _ ?_
    simp
    apply hK; clear hK K
    cases e : p y with
    | true =>
      refine L_true (by simp) ?_
      refine L_reg [4] (fun K hK => ?_)
      simp
      apply hK; clear hK K
      exact L_ret ⟨.inr rfl, _, rfl, h1i e hno⟩
    | false =>
      refine L_false (by simp) ?_
      refine L_reg [0, 1, 7, 8] (fun K hK => ?_)
      simp [wrap_i64 (a := (i : Int) + 1) (by omega)]
      apply hK; clear hK K
      exact ⟨l.length - (i + 1), [.int .i64 (i + 1 : Nat)], by omega, by simp, i + 1, rfl, by omega, hnoi e, rfl, rfl⟩
  · refine L_reg [4] (fun K hK => ?_)
    simp
    apply hK; clear hK K
    exact L_ret ⟨.inr rfl, _, rfl, h2 fun x hm => by obtain ⟨j, hj, e⟩ := List.mem_iff_getElem.1 hm; rw [← e]; exact hno j hj (by omega)⟩
theorem mx_take {l : List Int} {i : Nat} {a : Int} (hi : i < l.length) : (l.take (i + 1)).foldl max a = max ((l.take i).foldl max a) (g l i) := by
  rw [List.take_add_one, List.getElem?_eq_getElem hi, Option.toList_some, List.foldl_append, g_lt hi]
  rfl
theorem mn_take {l : List Int} {i : Nat} {a : Int} (hi : i < l.length) : (l.take (i + 1)).foldl min a = min ((l.take i).foldl min a) (g l i) := by
  rw [List.take_add_one, List.getElem?_eq_getElem hi, Option.toList_some, List.foldl_append, g_lt hi]
  rfl
theorem Max_ac (v : AV) (l : List Int) (H : AH) (Q : AV → AH → Prop) (h1 : 1 ≤ l.length) (hlen : l.length ≤ 1000000) (hv : Ls H v l) (h : Q (.int .i64 (l.foldl max (g l 0))) H) : AC Try.prog 60 [v] H Q := by
  have hl := ls_len hv
  refine L_body 25 Try.func60 rfl rfl ?_
  refine L_reg [0] (fun K hK => ?_)
  simp
  apply hK; clear hK K
  refine L_reg [0, 7] (fun K hK => ?_)
  simp [hl]
  apply hK; clear hK K
  refine L_false (by simp; omega) ?_
  obtain ⟨rz, pz, vz, hix, hld⟩ := ls_ix hv (i := 0) (by omega)
  have hix0 : ∀ k, aIndexAddr Try.prog 44 v (.int k 0) = some (.ptr rz pz vz) := hix
  refine L_reg [0, 3] (fun K hK => ?_)
  simp [hix0, hld]
  apply hK; clear hK K
  refine L_reg [0, 3, 4] (fun K hK => ?_)
  simp
  apply hK; clear hK K
  have hst : (l.take 1).foldl max (g l 0) = g l 0 := by
    have := mx_take (a := g l 0) (i := 0) (l := l) (by omega)
    rw [this]; simp
  refine L_block (L_loopV [3, 4] (fun n vs H' => ∃ i : Nat, n = l.length - i ∧ 1 ≤ i ∧ i ≤ l.length ∧ vs = [.int .i64 ((l.take i).foldl max (g l 0)), .int .i64 i] ∧ H = H') _ [.int .i64 (g l 0), .int .i64 1] rfl ⟨1, rfl, by omega, by omega, by rw [hst]; rfl, rfl⟩ ?_)
  rintro n _ _ ⟨i, rfl, hi1, hi, rfl, rfl⟩
  refine L_reg [0, 3, 4, 15] (fun K hK => ?_)
  simp [hl]
  apply hK; clear hK K
  refine L_dec (i < l.length) (by simp) (fun hlt => ?_) (fun hge => L_exit ?_)
  · refine L_block ?_
    obtain ⟨ry, py, vy, hiy, hldy⟩ := ls_ix hv hlt
    refine L_reg [0, 3, 4] (fun K hK => ?_)
    simp [hiy, hldy]
    apply hK; clear hK K
    refine L_reg [0, 3, 4] (fun K hK => ?_)
    simp [wrap_i64 (a := (i : Int) + 1) (by omega)]
    apply hK; clear hK K
    exact ⟨l.length - (i + 1), [.int .i64 ((l.take (i + 1)).foldl max (g l 0)), .int .i64 (i + 1 : Nat)], by omega, by simp [mx_take hlt], i + 1, rfl, by omega, by omega, rfl, rfl⟩
  · rw [List.take_of_length_le (by omega)]
    refine L_reg [2] (fun K hK => ?_)
    simp
    apply hK; clear hK K
    exact L_ret ⟨.inr rfl, _, rfl, h⟩
theorem Min_ac (v : AV) (l : List Int) (H : AH) (Q : AV → AH → Prop) (h1 : 1 ≤ l.length) (hlen : l.length ≤ 1000000) (hv : Ls H v l) (h : Q (.int .i64 (l.foldl min (g l 0))) H) : AC Try.prog 61 [v] H Q := by
  have hl := ls_len hv
  refine L_body 25 Try.func61 rfl rfl ?_
  refine L_reg [0] (fun K hK => ?_)
  simp
  apply hK; clear hK K
  refine L_reg [0, 7] (fun K hK => ?_)
  simp [hl]
  apply hK; clear hK K
  refine L_false (by simp; omega) ?_
  obtain ⟨rz, pz, vz, hix, hld⟩ := ls_ix hv (i := 0) (by omega)
  have hix0 : ∀ k, aIndexAddr Try.prog 44 v (.int k 0) = some (.ptr rz pz vz) := hix
  refine L_reg [0, 3] (fun K hK => ?_)
  simp [hix0, hld]
  apply hK; clear hK K
  refine L_reg [0, 3, 4] (fun K hK => ?_)
  simp
  apply hK; clear hK K
  have hst : (l.take 1).foldl min (g l 0) = g l 0 := by
    have := mn_take (a := g l 0) (i := 0) (l := l) (by omega)
    rw [this]; simp
  refine L_block (L_loopV [3, 4] (fun n vs H' => ∃ i : Nat, n = l.length - i ∧ 1 ≤ i ∧ i ≤ l.length ∧ vs = [.int .i64 ((l.take i).foldl min (g l 0)), .int .i64 i] ∧ H = H') _ [.int .i64 (g l 0), .int .i64 1] rfl ⟨1, rfl, by omega, by omega, by rw [hst]; rfl, rfl⟩ ?_)
  rintro n _ _ ⟨i, rfl, hi1, hi, rfl, rfl⟩
  refine L_reg [0, 3, 4, 15] (fun K hK => ?_)
  simp [hl]
  apply hK; clear hK K
  refine L_dec (i < l.length) (by simp) (fun hlt => ?_) (fun hge => L_exit ?_)
  · refine L_block ?_
    obtain ⟨ry, py, vy, hiy, hldy⟩ := ls_ix hv hlt
    refine L_reg [0, 3, 4] (fun K hK => ?_)
    simp [hiy, hldy]
    apply hK; clear hK K
    refine L_reg [0, 3, 4] (fun K hK => ?_)
    simp [wrap_i64 (a := (i : Int) + 1) (by omega)]
    apply hK; clear hK K
    exact ⟨l.length - (i + 1), [.int .i64 ((l.take (i + 1)).foldl min (g l 0)), .int .i64 (i + 1 : Nat)], by omega, by simp [mn_take hlt], i + 1, rfl, by omega, by omega, rfl, rfl⟩
  · rw [List.take_of_length_le (by omega)]
    refine L_reg [2] (fun K hK => ?_)
    simp
    apply hK; clear hK K
    exact L_ret ⟨.inr rfl, _, rfl, h⟩
/-- The greatest and the smallest of some numbers are among them, and bound them. -/
theorem cl_max {b : Nat → Nat} {m : Nat} (h : 0 < m) : ∃ a, a < m ∧ (cl b m).foldl max (g (cl b m) 0) = (b a : Int) ∧ ∀ i, i < m → b i ≤ b a := by
  have key : ∀ k, 1 ≤ k → k ≤ m → ∃ a, a < k ∧ ((cl b m).take k).foldl max (g (cl b m) 0) = (b a : Int) ∧ ∀ i, i < k → b i ≤ b a := by
    intro k
    induction k with
    | zero => intro h; omega
    | succ k ih =>
      intro _ hk
      have e0 := cl_g (b := b) h
      by_cases h1 : k = 0
      · subst h1
        refine ⟨0, by omega, ?_, fun i hi => by rw [show i = 0 by omega]; exact Nat.le_refl _⟩
        rw [mx_take (by simp; omega)]; simp [e0]
      · obtain ⟨a, h2, h3, h4⟩ := ih (by omega) (by omega)
        rw [mx_take (by simp; omega), h3, cl_g (by omega)]
        rcases Nat.le_total (b a) (b k) with hc | hc
        · refine ⟨k, by omega, by omega, fun i hi => ?_⟩
          rcases Nat.lt_or_ge i k with hh | hh
          · exact Nat.le_trans (h4 i hh) hc
          · rw [show i = k by omega]; exact Nat.le_refl _
        · refine ⟨a, by omega, by omega, fun i hi => ?_⟩
          rcases Nat.lt_or_ge i k with hh | hh
          · exact h4 i hh
          · rw [show i = k by omega]; exact hc
  have := key m (by omega) (Nat.le_refl _)
  rwa [List.take_of_length_le (by simp)] at this
theorem cl_min {b : Nat → Nat} {m : Nat} (h : 0 < m) : ∃ a, a < m ∧ (cl b m).foldl min (g (cl b m) 0) = (b a : Int) ∧ ∀ i, i < m → b a ≤ b i := by
  have key : ∀ k, 1 ≤ k → k ≤ m → ∃ a, a < k ∧ ((cl b m).take k).foldl min (g (cl b m) 0) = (b a : Int) ∧ ∀ i, i < k → b a ≤ b i := by
    intro k
    induction k with
    | zero => intro h; omega
    | succ k ih =>
      intro _ hk
      have e0 := cl_g (b := b) h
      by_cases h1 : k = 0
      · subst h1
        refine ⟨0, by omega, ?_, fun i hi => by rw [show i = 0 by omega]; exact Nat.le_refl _⟩
        rw [mn_take (by simp; omega)]; simp [e0]
      · obtain ⟨a, h2, h3, h4⟩ := ih (by omega) (by omega)
        rw [mn_take (by simp; omega), h3, cl_g (by omega)]
        rcases Nat.le_total (b k) (b a) with hc | hc
        · refine ⟨k, by omega, by omega, fun i hi => ?_⟩
          rcases Nat.lt_or_ge i k with hh | hh
          · exact Nat.le_trans hc (h4 i hh)
          · rw [show i = k by omega]; exact Nat.le_refl _
        · refine ⟨a, by omega, by omega, fun i hi => ?_⟩
          rcases Nat.lt_or_ge i k with hh | hh
          · exact h4 i hh
          · rw [show i = k by omega]; exact hc
  have := key m (by omega) (Nat.le_refl _)
  rwa [List.take_of_length_le (by simp)] at this
theorem clash1_ac (x f : Int) (p : Nat) (H : AH) (Q : AV → AH → Prop) (hx : -1000 ≤ x ∧ x ≤ 1000) (hf : -1000 ≤ f ∧ f ≤ 1000) (hl : ld H p 0 0 = some (.int .i64 f)) (h : Q (.bool (decide (1 < x - f))) H) : AC Try.prog 70 [.int .i64 x, .ptr p 0 0] H Q := by
  refine L_body 8 Try.func70 rfl rfl ?_
  refine L_reg [0, 1] (fun K hK => ?_)
  simp
  apply hK; clear hK K
  refine L_reg [3] (fun K hK => ?_)
  simp [hl, wrap_i64 (a := x - f) (by omega)]
  apply hK; clear hK K
  exact L_ret ⟨.inr rfl, _, rfl, h⟩
theorem clash2_ac (x : Int) (v : AV) (l : List Int) (m : Nat) (p q : Nat) (H : AH) (Q : AV → AH → Prop) (hx : -1000 ≤ x ∧ x ≤ 1000) (hv : Ls H v l) (hm : m < l.length) (hb : -1000 ≤ g l m ∧ g l m ≤ 1000) (h1 : ld H p 0 0 = some v) (h2 : ld H q 0 0 = some (.int .i64 m))
    (h : Q (.bool (decide (1 < g l m - x))) H) : AC Try.prog 71 [.int .i64 x, .ptr p 0 0, .ptr q 0 0] H Q := by
  refine L_body 12 Try.func71 rfl rfl ?_
  refine L_reg [0, 1, 2] (fun K hK => ?_)
  simp
  apply hK; clear hK K
  obtain ⟨rz, pz, vz, hix, hld⟩ := ls_ix hv hm
  refine L_reg [4] (fun K hK => ?_)
  simp [h1, h2, hix, hld, wrap_i64 (a := g l m - x) (by omega)]
  apply hK; clear hK K
  exact L_ret ⟨.inr rfl, _, rfl, h⟩
/-- What the search for two parts answers. -/
def clV : Option (Nat × Nat × Nat) → AV
  | some (a, c, len) => .tuple [.int .i64 a, .int .i64 c, .int .i64 len, .bool true]
  | none => .tuple [.int .i64 0, .int .i64 0, .int .i64 0, .bool false]
theorem clV_bel (N : Nat) (x : Option (Nat × Nat × Nat)) : belB N 4 (clV x) = true := by
  cases x <;> simp [clV, belB]
end Go.Proofs.Ytlghgbdelmiakaa

/- The first two parts of the round that differ too much: the program's search. -/
namespace Go.Proofs.Ytlghgbdelmiakaa
open Go Go.Proofs.Ytlghgbdelmiakaa.AX

theorem res_cell3 {P : Program} {fn : Func} {e : Env} {H : AH} {a b c d : Tmp} {t : TypeId} {v u1 u2 u3 : AV} (hr : fn.results = #[.cell a t, .tmp b, .tmp c, .tmp d]) (hv : loadV P t H (eget e a) = some v) (h1 : eget e b = u1) (h2 : eget e c = u2) (h3 : eget e d = u3) :
    aResults P fn e H = some (.tuple [v, u1, u2, u3]) := by
  have g1 : aRes1 P e H (.cell a t) = some v := hv
  have g2 : ∀ x, aRes1 P e H (.tmp x) = some (eget e x) := fun _ => rfl
  simp [aResults, hr, aResList, g1, g2, h1, h2, h3]
set_option maxRecDepth 100000 in
theorem clash_e (w : List UInt8) (H : AH) (Q : AV → AH → Prop) (hw : okW w = true) (hl0 : 1 ≤ w.length) (hl : w.length ≤ 16) (h : ∀ H', Ext H H' → Q (clV (clW w false)) H') : AC Try.prog 44 [.str w] H Q := by
  refine L_body 30 Try.func44 rfl rfl ?_
  refine L_reg [0, 2] (fun K hK => ?_)
  simp [alloc_z zt3]
  apply hK; clear hK K
  refine L_reg [0, 2, 4] (fun K hK => ?_)
  simp
  apply hK; clear hK K
  refine L_block (L_loopV [4] (fun n vs H' => ∃ (len : Nat) (z : Int) (s : Nat), n = w.length + 1 - len ∧ 1 ≤ len ∧ len ≤ w.length + 1 ∧ vs = [.int .i64 len] ∧ H'[H.length]? = some (.row [.int .i64 z] 0 s false) ∧ Ext H H' ∧ ∀ l, 1 ≤ l → l < len → clA (bb w l) w.length = none) _ [.int .i64 1] rfl ⟨1, 0, 0, rfl, by omega, by omega, rfl, by simp, .push _ _, fun l _ hl => by omega⟩ ?_)
  rintro n _ H1 ⟨len, z, s, rfl, h1, hle, rfl, hrow, hE, hno⟩
  refine L_reg [0, 2, 4, 11] (fun K hK => ?_)
  simp
  apply hK; clear hK K
  refine L_dec (len ≤ w.length) (by simp) (fun hlt => ?_) (fun hge => L_exit ?_)
  · refine L_block ?_
    -- the counts
    refine L_reg [0, 2, 4, 6] (fun K hK => ?_)
    simp [okFn_low]
    refine bandsAround_ac w len _ _ hw (by omega) h1 hlt (fun v H2 hO hE2 => ?_)
    have hv1 : v.one = true := by obtain ⟨r, ver, e⟩ := hO.len; rw [e]; rfl
    have hvne : ∀ k m, v ≠ AV.int k m := by obtain ⟨r, ver, e⟩ := hO.len; rw [e]; intro k m hh; cases hh
    have hvk : known (some v) = some v := by obtain ⟨r, ver, e⟩ := hO.len; rw [e]; rfl
    simp [alloc_z zt44]
    rw [store_last (P := Try.prog) sc44 hv1 rfl]
    simp
    apply hK; clear hK K
    have hv := hO.own.ls
    have hvr : ∀ r off len' ver sz full, v = AV.slice (some r) off len' ver sz full → H.length < r := fun r off len' ver sz full e => by
      rcases hO with ⟨h3, -⟩ | ⟨r', ver', st, h3, h4, -⟩
      · have h5 := congrArg List.length h3; rw [List.length_map, cl_len, List.length_nil] at h5; omega
      · rw [h4] at e; cases e; have := hE.1; have := (List.getElem?_eq_some_iff.1 hrow).1; omega
    generalize hL : cl (bb w len) w.length = L at hv
    have hLl : L.length = w.length := by rw [← hL]; simp
    have hr2 := (hE2.row hrow)
    have hr6 : (H2 ++ [AObj.row [v] 0 0 false])[H2.length]? = some (.row [v] 0 0 false) := by simp
    have hE3 : Ext H (H2 ++ [AObj.row [v] 0 0 false]) := (hE.trans hE2).trans (.push _ _)
    have hr2' : (H2 ++ [AObj.row [v] 0 0 false])[H.length]? = some (.row [.int .i64 z] 0 s false) := (Ext.push H2 _).row hr2
    have hv3 := hv.ext (.push H2 [AObj.row [v] 0 0 false])
    generalize H2 ++ [AObj.row [v] 0 0 false] = H3 at hr6 hE3 hr2' hv3
    generalize H2.length = p6 at hr6
    have l6 : ld H3 p6 0 0 = some v := by rw [ld_row hr6]; exact hvk
    -- the fewest
    refine L_reg [0, 2, 4, 6, 7] (fun K hK => ?_)
    simp [okFn_low, l6]
    refine Min_ac v L _ _ (by omega) (by omega) hv3 ?_
    obtain ⟨a0, ha0, hmn, hmin⟩ := cl_min (b := bb w len) (m := w.length) (by omega)
    rw [hL] at hmn
    rw [hmn]
    simp [alloc_z zt3]
    rw [store_last (P := Try.prog) sc3 rfl rfl]
    simp
    apply hK; clear hK K
    have hr7 : (H3 ++ [AObj.row [.int .i64 (bb w len a0)] 0 0 false])[H3.length]? = some (.row [.int .i64 (bb w len a0)] 0 0 false) := by simp
    have hE4 : Ext H (H3 ++ [AObj.row [.int .i64 (bb w len a0)] 0 0 false]) := hE3.trans (.push _ _)
    have hr2 := (Ext.push H3 [AObj.row [.int .i64 (bb w len a0)] 0 0 false]).row hr2'
    have hr6 := (Ext.push H3 [AObj.row [.int .i64 (bb w len a0)] 0 0 false]).row hr6
    have hv4 := hv3.ext (.push H3 [AObj.row [.int .i64 (bb w len a0)] 0 0 false])
    generalize H3 ++ [AObj.row [.int .i64 (bb w len a0)] 0 0 false] = H4 at hr7 hE4 hr2 hr6 hv4
    generalize H3.length = p7 at hr7
    have l6 : ld H4 p6 0 0 = some v := by rw [ld_row hr6]; exact hvk
    have l7 : ld H4 p7 0 0 = some (.int .i64 (bb w len a0)) := by rw [ld_row hr7]; rfl
    have hgL : ∀ i, i < w.length → g L i = bb w len i := fun i hi => by rw [← hL]; exact cl_g hi
    have hbl : ∀ i, bb w len i ≤ 16 := fun i => Nat.le_trans bb_le (by omega)
    have hxb : ∀ x ∈ L, -1000 ≤ x ∧ x ≤ 1000 := fun x hx => by
      obtain ⟨i, hi, rfl⟩ := List.mem_iff_getElem.1 hx
      have := hbl i
      rw [g_lt hi, hgL i (by omega)]
      omega
    have hb0 := hbl a0
    -- the first that has too many
    refine L_reg [0, 2, 4, 6] (fun K hK => ?_)
    simp [okFn_low, l6]
    refine IndexFunc_ac v L 70 [.ptr p7 0 0] (fun x => decide (1 < x - (bb w len a0 : Int))) H4 _ (by omega) hv4 (by simp [okFn_low]) (fun x hx Q hQ => clash1_ac x _ p7 H4 Q (hxb x hx) (by omega) l7 hQ) (fun i hi hpi hpj => ?_) (fun hnone => ?_)
    · rw [hLl] at hi
      have hpi : bb w len a0 + 2 ≤ bb w len i := by
        rw [g_lt (by omega), hgL i hi] at hpi
        simp at hpi; omega
      have hbefore : ∀ a' c', a' < i → c' < w.length → pr (bb w len) a' c' = false := fun a' c' ha' hc' => by
        have := hpj a' (by omega) ha'
        rw [g_lt (by omega), hgL a' (by omega)] at this
        simp at this
        have := hmin c' hc'
        rw [pr_false]; omega
      obtain ⟨H5, s5, st5, q2, ql, qk⟩ := st_cell sc3 (x := .int .i64 i) (off := 0) hr2 rfl rfl
      simp [st5]
      apply hK; clear hK K
      have hne6 : p6 ≠ H.length := by
        rintro rfl
        rw [hr2] at hr6
        have := (Option.some.inj hr6)
        simp at this
        exact hvne _ _ this.1.symm
      have hE5 : Ext H H5 := ⟨by have := hE4.1; omega, fun x hx => by rw [qk x (by omega)]; exact hE4.2 x hx⟩
      have hr65 := (qk p6 hne6).trans hr6
      have hrw : ∀ j o, j ≠ H.length → H4[j]? = some o → H5[j]? = some o := fun j o hj ho => by rw [qk j hj]; exact ho
      have hv5 : Ls H5 v L := by
        obtain ⟨r, off, ver, sz, full, rfl, hld⟩ := hv4
        refine ⟨r, off, ver, sz, full, rfl, fun k hk => ?_⟩
        obtain ⟨r', rfl, e2, e3⟩ := hld k hk
        refine ⟨r', rfl, e2, ?_⟩
        have hne : r' ≠ H.length := by
          rintro rfl
          exact Nat.lt_irrefl _ (hvr _ _ _ _ _ _ rfl)
        unfold ld at e3 ⊢
        rw [qk r' hne]; exact e3
      have l65 : ld H5 p6 0 0 = some v := by rw [ld_row hr65]; exact hvk
      have l25 : ld H5 H.length 0 0 = some (.int .i64 i) := by rw [ld_row q2]; rfl
      refine L_reg [0, 2, 4, 6, 23] (fun K hK => ?_)
      simp [l25]
      apply hK; clear hK K
      refine L_true (by simp) ?_
      obtain ⟨c, hc1, hc2, hc3, hc4⟩ := clA_min (b := bb w len) hi hbefore ha0 (pr_true.2 hpi)
      have hW : clW w false = some (i, c, len) := clW_some h1 hlt hc1 hno
      refine L_reg [2, 3, 4] (fun K hK => ?_)
      simp [okFn_low, l65]
      have hgi := hgL i hi
      have hbi := hbl i
      refine IndexFunc_ac v L 71 [.ptr p6 0 0, .ptr H.length 0 0] (fun x => decide (1 < g L i - x)) H5 _ (by omega) hv5 (by simp [okFn_low]) (fun x hx Q hQ => clash2_ac x v L i p6 H.length H5 Q (hxb x hx) hv5 (by omega) (by omega) l65 l25 hQ) (fun c' hc' hpc hpj => ?_) (fun hnone => ?_)
      · rw [hLl] at hc'
        have ecc : c' = c := by
          rw [g_lt (by omega), hgL c' hc', hgi] at hpc
          simp at hpc
          have h3 : pr (bb w len) i c' = true := pr_true.2 (by omega)
          rcases Nat.lt_trichotomy c' c with h4 | h4 | h4
          · rw [hc4 c' h4] at h3; cases h3
          · exact h4
          · have := hpj c (by omega) h4
            rw [g_lt (by omega), hgL c hc2, hgi] at this
            have h5 := pr_true.1 hc3
            simp at this; omega
        subst ecc
        simp
        apply hK; clear hK K
        obtain ⟨H6, s6, st6, q3, ql6, qk6⟩ := st_cell sc3 (x := .int .i64 i) (off := 0) q2 rfl rfl
        have hE6 : Ext H H6 := ⟨by have := hE5.1; omega, fun x hx => by rw [qk6 x (by omega)]; exact hE5.2 x hx⟩
        refine L_reg [2, 3, 4, 5] (fun K hK => ?_)
        simp [l25, st6]
        apply hK; clear hK K
        refine L_ret ⟨.inr rfl, _, res_cell3 (v := .int .i64 i) rfl (by simp; rw [ld_row q3]; rfl) rfl rfl rfl, ?_⟩
        have := h H6 hE6
        rw [hW] at this
        exact this
      · exfalso
        have := hnone (g L c) (by rw [← g_lt (l := L) (i := c) (by omega)]; exact List.getElem_mem _)
        rw [hgi, hgL c hc2] at this
        have h5 := pr_true.1 hc3
        simp at this; omega
    · have hcl : clA (bb w len) w.length = none := by
        rw [clA_none]
        intro a c ha hc
        have := hnone (g L a) (by rw [← g_lt (l := L) (i := a) (by omega)]; exact List.getElem_mem _)
        rw [hgL a ha] at this
        have h5 := hmin c hc
        simp at this
        rw [pr_false]; omega
      obtain ⟨H5, s5, st5, q2, ql, qk⟩ := st_cell sc3 (x := .int .i64 (-1)) (off := 0) hr2 rfl rfl
      simp [st5]
      apply hK; clear hK K
      have hE5 : Ext H H5 := ⟨by have := hE4.1; omega, fun x hx => by rw [qk x (by omega)]; exact hE4.2 x hx⟩
      have l25 : ld H5 H.length 0 0 = some (.int .i64 (-1)) := by rw [ld_row q2]; rfl
      refine L_reg [0, 2, 4, 6, 23] (fun K hK => ?_)
      simp [l25]
      apply hK; clear hK K
      refine L_false (by simp) ?_
      refine L_reg [0, 2, 4] (fun K hK => ?_)
      simp [wrap_i64 (a := (len : Int) + 1) (by omega)]
      apply hK; clear hK K
      refine ⟨w.length + 1 - (len + 1), [.int .i64 (len + 1 : Nat)], by omega, by simp, len + 1, -1, s5, rfl, by omega, by omega, rfl, q2, hE5, fun l g1 g2 => ?_⟩
      by_cases e : l = len
      · subst e; exact hcl
      · exact hno l g1 (by omega)
  · have hW : clW w false = none := clW_none.2 fun l g1 g2 => hno l g1 (by omega)
    obtain ⟨H5, s5, st5, q2, ql, qk⟩ := st_cell sc3 (x := .int .i64 0) (off := 0) hrow rfl rfl
    have hE5 : Ext H H5 := ⟨by have := hE.1; omega, fun x hx => by rw [qk x (by have := hE.1; omega)]; exact hE.2 x hx⟩
    refine L_reg [2, 3, 4, 5] (fun K hK => ?_)
    simp [st5]
    apply hK; clear hK K
    refine L_ret ⟨.inr rfl, _, res_cell3 (v := .int .i64 0) rfl (by simp; rw [ld_row q2]; rfl) rfl rfl rfl, ?_⟩
    have := h H5 hE5
    rw [hW] at this
    exact this
theorem clash_ac (w : List UInt8) (H : AH) (Q : AV → AH → Prop) (hw : okW w = true) (hl0 : 1 ≤ w.length) (hl : w.length ≤ 16) (h : Q (clV (clW w false)) H) : AC Try.prog 44 [.str w] H Q :=
  AC.quiet (clV_bel _ _) (fun Q h => clash_e w H Q hw hl0 hl h) Q h
end Go.Proofs.Ytlghgbdelmiakaa

/- The first two parts that differ too much: the reference's search; what is told of words. -/
namespace Go.Proofs.Ytlghgbdelmiakaa
open Go Go.Proofs.Ytlghgbdelmiakaa.AX

theorem clV_some (a c len : Nat) : clV (some (a, c, len)) = .tuple [.int .i64 a, .int .i64 c, .int .i64 len, .bool true] := rfl
theorem clV_none : clV none = .tuple [.int .i64 0, .int .i64 0, .int .i64 0, .bool false] := rfl
end Go.Proofs.Ytlghgbdelmiakaa

/- All straight words of so many letters, by numbers: those of one letter less, written on. -/
namespace Go.Proofs.Ytlghgbdelmiakaa

/-- The word whose letters b are the bits of a number, the first letter at the highest bit. -/
def spell (n s : Nat) : List UInt8 := (List.range n).map fun j => if s / 2 ^ (n - 1 - j) % 2 = 1 then 98 else 97
theorem spell_len (n s : Nat) : (spell n s).length = n := by simp [spell]
theorem spell_ok (n s : Nat) : okW (spell n s) = true := by
  simp only [okW, spell, List.all_map, List.all_eq_true]
  intro i _
  simp only [Function.comp]
  split <;> rfl
def bitL (b : Nat) : UInt8 := if b % 2 = 1 then 98 else 97
theorem spell_succ (n s b : Nat) (hb : b < 2) : spell (n + 1) (2 * s + b) = spell n s ++ [bitL b] := by
  refine List.ext_getElem (by simp [spell]) fun j h1 h2 => ?_
  rw [spell_len] at h1
  simp only [spell, List.getElem_map, List.getElem_range]
  by_cases hj : j = n
  · subst hj
    rw [List.getElem_append_right (by simp)]
    have : (2 * s + b) % 2 = b % 2 := by omega
    simp [bitL, this]
  · rw [List.getElem_append_left (by simp; omega)]
    simp only [List.getElem_map, List.getElem_range]
    have e : n + 1 - 1 - j = (n - 1 - j) + 1 := by omega
    rw [e, Nat.pow_succ, Nat.mul_comm (2 ^ _) 2, ← Nat.div_div_eq_div_mul]
    have : (2 * s + b) / 2 = s := by omega
    rw [this]

/-- Straight parts' counts differ by one at most. -/
def strP (w : List UInt8) : Prop := ∀ len a c, 1 ≤ len → a + len ≤ w.length → c + len ≤ w.length → bnd ((w.drop a).take len) ≤ bnd ((w.drop c).take len) + 1
theorem strB_iff (w : List UInt8) : strB w = true ↔ strP w := by
  unfold strB strP
  rw [Option.isNone_iff_eq_none, clW_none]
  constructor
  · intro h len a c h1 ha hc
    have := (clA_none.1 (h len h1 (by omega))) a c (by simp [most]; omega) (by simp [most]; omega)
    rwa [pr_false, bb_straight ha, bb_straight hc] at this
  · intro h len h1 h2
    rw [clA_none]
    intro a c ha hc
    simp only [most, if_true] at ha hc
    have := h len a c h1 (by omega) (by omega)
    rw [pr_false, bb_straight (by omega), bb_straight (by omega)]
    exact this
theorem strP_init {w : List UInt8} {x : UInt8} (h : strP (w ++ [x])) : strP w := by
  intro len a c h1 ha hc
  have := h len a c h1 (by simp; omega) (by simp; omega)
  rwa [List.drop_append_of_le_length (by omega), List.take_append_of_le_length (by simp; omega), List.drop_append_of_le_length (by omega), List.take_append_of_le_length (by simp; omega)] at this
/-- An even word is straight. -/
theorem even_str {w : List UInt8} (h : evenB w = true) : strB w = true := by
  unfold evenB at h
  rw [Option.isNone_iff_eq_none, clW_none] at h
  rw [strB_iff]
  intro len a c h1 ha hc
  have := (clA_none.1 (h len h1 (by omega))) a c (by simp [most]; omega) (by simp [most]; omega)
  rwa [pr_false, bb_straight ha, bb_straight hc] at this
/-! A quicker test: each length's counts, the greatest and the smallest. -/
def cnts (w : List UInt8) (len m : Nat) : List Nat := (List.range m).map fun a => bnd ((w.drop a).take len)
def near1 : List Nat → Bool
  | [] => true
  | x :: l => Nat.ble (l.foldl max x) (l.foldl min x + 1)
def fstr (w : List UInt8) : Bool := (List.range' 1 (w.length - 1)).all fun len => near1 (cnts w len (w.length - len + 1))
theorem foldl_max_ge : ∀ (l : List Nat) (x : Nat), x ≤ l.foldl max x ∧ ∀ y ∈ l, y ≤ l.foldl max x
  | [], x => ⟨Nat.le_refl _, fun _ h => by cases h⟩
  | y :: l, x => by
    obtain ⟨h1, h2⟩ := foldl_max_ge l (max x y)
    refine ⟨by simp only [List.foldl_cons]; omega, fun z hz => ?_⟩
    simp only [List.foldl_cons]
    rcases List.mem_cons.1 hz with rfl | hz
    · omega
    · exact h2 z hz
theorem foldl_min_le : ∀ (l : List Nat) (x : Nat), l.foldl min x ≤ x ∧ ∀ y ∈ l, l.foldl min x ≤ y
  | [], x => ⟨Nat.le_refl _, fun _ h => by cases h⟩
  | y :: l, x => by
    obtain ⟨h1, h2⟩ := foldl_min_le l (min x y)
    refine ⟨by simp only [List.foldl_cons]; omega, fun z hz => ?_⟩
    simp only [List.foldl_cons]
    rcases List.mem_cons.1 hz with rfl | hz
    · omega
    · exact h2 z hz
theorem foldl_max_mem : ∀ (l : List Nat) (x : Nat), l.foldl max x ∈ x :: l
  | [], x => by simp
  | y :: l, x => by
    have := foldl_max_mem l (max x y)
    simp only [List.foldl_cons]
    rcases List.mem_cons.1 this with h | h
    · rw [h]
      rcases Nat.le_total x y with h1 | h1
      · rw [Nat.max_eq_right h1]; simp
      · rw [Nat.max_eq_left h1]; simp
    · exact List.mem_cons_of_mem _ (List.mem_cons_of_mem _ h)
theorem foldl_min_mem : ∀ (l : List Nat) (x : Nat), l.foldl min x ∈ x :: l
  | [], x => by simp
  | y :: l, x => by
    have := foldl_min_mem l (min x y)
    simp only [List.foldl_cons]
    rcases List.mem_cons.1 this with h | h
    · rw [h]
      rcases Nat.le_total x y with h1 | h1
      · rw [Nat.min_eq_left h1]; simp
      · rw [Nat.min_eq_right h1]; simp
    · exact List.mem_cons_of_mem _ (List.mem_cons_of_mem _ h)
theorem near1_iff {l : List Nat} : near1 l = true ↔ ∀ x ∈ l, ∀ y ∈ l, x ≤ y + 1 := by
  cases l with
  | nil => simp [near1]
  | cons z l =>
    simp only [near1, Nat.ble_eq]
    have a1 := foldl_max_ge l z
    have a2 := foldl_min_le l z
    constructor
    · intro h x hx y hy
      have h1 : x ≤ l.foldl max z := by
        rcases List.mem_cons.1 hx with rfl | hx
        · exact a1.1
        · exact a1.2 x hx
      have h2 : l.foldl min z ≤ y := by
        rcases List.mem_cons.1 hy with rfl | hy
        · exact a2.1
        · exact a2.2 y hy
      omega
    · intro h
      exact h _ (foldl_max_mem l z) _ (foldl_min_mem l z)
theorem fstr_eq (w : List UInt8) : fstr w = strB w := by
  rw [Bool.eq_iff_iff, strB_iff]
  unfold fstr strP
  rw [List.all_eq_true]
  constructor
  · intro h len a c h1 ha hc
    by_cases hl : len = w.length
    · have e1 : a = 0 := by omega
      have e2 : c = 0 := by omega
      subst e1; subst e2; omega
    · have := near1_iff.1 (h len (List.mem_range'_1.2 ⟨h1, by omega⟩)) (bnd ((w.drop a).take len)) (List.mem_map.2 ⟨a, List.mem_range.2 (by omega), rfl⟩) (bnd ((w.drop c).take len)) (List.mem_map.2 ⟨c, List.mem_range.2 (by omega), rfl⟩)
      exact this
  · intro h len hl
    rw [List.mem_range'_1] at hl
    rw [near1_iff]
    intro x hx y hy
    obtain ⟨a, ha, rfl⟩ := List.mem_map.1 hx
    obtain ⟨c, hc, rfl⟩ := List.mem_map.1 hy
    rw [List.mem_range] at ha hc
    exact h len a c (by omega) (by omega) (by omega)
/-! ### All of them -/
def allS : Nat → List Nat
  | 0 => [0]
  | n + 1 => (allS n).flatMap fun s => [2 * s, 2 * s + 1].filter fun t => fstr (spell (n + 1) t)
theorem range_double : ∀ m : Nat, List.range (2 * m) = (List.range m).flatMap fun s => [2 * s, 2 * s + 1]
  | 0 => rfl
  | m + 1 => by
    rw [show 2 * (m + 1) = 2 * m + 1 + 1 by omega, List.range_succ, List.range_succ, range_double m, List.range_succ, List.flatMap_append]
    simp
theorem filter_flatMap' {α β : Type} (p : β → Bool) (q : α → Bool) (f : α → List β) : ∀ l : List α, (∀ a ∈ l, q a = false → ∀ b ∈ f a, p b = false) → (l.flatMap f).filter p = (l.filter q).flatMap fun a => (f a).filter p
  | [], _ => rfl
  | a :: l, h => by
    rw [List.flatMap_cons, List.filter_append, filter_flatMap' p q f l (fun b hb => h b (List.mem_cons_of_mem _ hb))]
    cases hq : q a with
    | true => rw [List.filter_cons_of_pos hq, List.flatMap_cons]
    | false =>
      rw [List.filter_cons_of_neg (by simp [hq])]
      have : (f a).filter p = [] := List.filter_eq_nil_iff.2 fun b hb => by simp [h a (by simp) hq b hb]
      rw [this, List.nil_append]
theorem allS_eq : ∀ n : Nat, allS n = (List.range (2 ^ n)).filter fun s => strB (spell n s)
  | 0 => by decide
  | n + 1 => by
    rw [Nat.pow_succ, Nat.mul_comm, range_double, filter_flatMap' (fun s => strB (spell (n + 1) s)) (fun s => strB (spell n s)), ← allS_eq n]
    · show (allS n).flatMap (fun s => [2 * s, 2 * s + 1].filter fun t => fstr (spell (n + 1) t)) = _
      simp only [fstr_eq]
    · intro s _ hs t ht
      have : t = 2 * s + 0 ∨ t = 2 * s + 1 := by simpa using ht
      cases hb : strB (spell (n + 1) t) with
      | false => rfl
      | true =>
        rw [strB_iff] at hb
        have : strP (spell n s) := by
          rcases this with rfl | rfl
          · rw [spell_succ n s 0 (by omega)] at hb; exact strP_init hb
          · rw [spell_succ n s 1 (by omega)] at hb; exact strP_init hb
        rw [← strB_iff, hs] at this; cases this
theorem evens_eq (n : Nat) : ((List.range (2 ^ n)).filter fun s => evenB (spell n s)) = (allS n).filter fun s => evenB (spell n s) := by
  rw [allS_eq, List.filter_filter]
  refine List.filter_congr fun s _ => ?_
  cases h : evenB (spell n s) with
  | false => simp
  | true => simp [even_str h]
end Go.Proofs.Ytlghgbdelmiakaa

/- What is told of words: even or not, two parts, straight or not; program and reference. -/
namespace Go.Proofs.Ytlghgbdelmiakaa
open Go Go.Proofs.Ytlghgbdelmiakaa.AX

structure Wok (w : List UInt8) : Prop where
  lo : 1 ≤ w.length
  hi : w.length ≤ 16
  ok : okW w = true
theorem chk_zero {w : List UInt8} (h : chk w = 0) : Wok w := by
  unfold chk at h
  split at h
  · cases h
  · split at h
    · cases h
    · split at h
      · exact ⟨by omega, by omega, by assumption⟩
      · cases h
theorem Wok.chk {w : List UInt8} (h : Wok w) : chk w = 0 := by
  have h1 := h.lo
  have h2 := h.hi
  unfold Ytlghgbdelmiakaa.chk
  rw [if_neg (by omega), if_neg (by omega), if_pos h.ok]
def evenV (w : List UInt8) : AV := if chk w = 0 then .tuple [.bool (evenB w), .int .i64 0] else .tuple [.bool false, .int .i64 (chk w)]
def strV (w : List UInt8) : AV := if chk w = 0 then .tuple [.bool (strB w), .int .i64 0] else .tuple [.bool false, .int .i64 (chk w)]
def agV (w : List UInt8) : AV := if chk w = 0 then (match clW w false with | some (a, c, len) => .tuple [.int .i64 a, .int .i64 c, .int .i64 len, .int .i64 0] | none => .tuple [.int .i64 0, .int .i64 0, .int .i64 0, .int .i64 13]) else .tuple [.int .i64 0, .int .i64 0, .int .i64 0, .int .i64 (chk w)]
def provS (w : List UInt8) (m f l : Int) : Int :=
  if chk w ≠ 0 then chk w else if ¬ ((0 ≤ m ∧ m < w.length) ∧ 0 ≤ f ∧ f < w.length) then 2 else if ¬ (1 ≤ l ∧ l ≤ w.length) then 1 else if bb w l.toNat m.toNat < bb w l.toNat f.toNat + 2 then 14 else 0
theorem evenB_none {w : List UInt8} (h : clW w false = none) : evenB w = true := by simp [evenB, h]
theorem evenB_some {w : List UInt8} {x : Nat × Nat × Nat} (h : clW w false = some x) : evenB w = false := by simp [evenB, h]
theorem Even_ac (w : List UInt8) (H : AH) (Q : AV → AH → Prop) (h : Q (evenV w) H) : AC Try.prog 13 [.str w] H Q := by
  refine L_body 23 Try.func13 rfl rfl ?_
  unfold evenV at h
  refine L_reg [0] (fun K hK => ?_)
  simp
  apply hK; clear hK K
  refine L_reg [0, 4] (fun K hK => ?_)
  simp [okFn_low]
  refine Check_ac w _ _ ?_
  simp
  apply hK; clear hK K
  by_cases hc : chk w = 0
  · have hk := chk_zero hc
    rw [if_pos hc] at h
    refine L_reg [0, 4, 12] (fun K hK => ?_)
    simp [hc]
    apply hK; clear hK K
    refine L_false (by simp) ?_
    refine L_reg [8] (fun K hK => ?_)
    simp [okFn_low]
    refine clash_ac w _ _ hk.ok hk.lo hk.hi ?_
    cases hW : clW w false with
    | none =>
      rw [evenB_none hW] at h
      simp [clV_none]
      apply hK; clear hK K
      refine L_reg [2, 3] (fun K hK => ?_)
      simp
      apply hK; clear hK K
      exact L_ret ⟨.inr rfl, _, rfl, h⟩
    | some x =>
      obtain ⟨a, c, len⟩ := x
      rw [evenB_some hW] at h
      simp [clV_some]
      apply hK; clear hK K
      refine L_reg [2, 3] (fun K hK => ?_)
      simp
      apply hK; clear hK K
      exact L_ret ⟨.inr rfl, _, rfl, h⟩
  · rw [if_neg hc] at h
    refine L_reg [0, 4, 12] (fun K hK => ?_)
    simp
    apply hK; clear hK K
    refine L_true (by simp [hc]) ?_
    refine L_reg [2, 3] (fun K hK => ?_)
    simp
    apply hK; clear hK K
    exact L_ret ⟨.inr rfl, _, rfl, h⟩
theorem Against_ac (w : List UInt8) (H : AH) (Q : AV → AH → Prop) (h : Q (agV w) H) : AC Try.prog 15 [.str w] H Q := by
  refine L_body 25 Try.func15 rfl rfl ?_
  unfold agV at h
  refine L_reg [0] (fun K hK => ?_)
  simp
  apply hK; clear hK K
  refine L_reg [0, 6] (fun K hK => ?_)
  simp [okFn_low]
  refine Check_ac w _ _ ?_
  simp
  apply hK; clear hK K
  by_cases hc : chk w = 0
  · have hk := chk_zero hc
    rw [if_pos hc] at h
    refine L_reg [0, 6, 11] (fun K hK => ?_)
    simp [hc]
    apply hK; clear hK K
    refine L_false (by simp) ?_
    refine L_reg [2, 3, 4, 7] (fun K hK => ?_)
    simp [okFn_low]
    refine clash_ac w _ _ hk.ok hk.lo hk.hi ?_
    cases hW : clW w false with
    | none =>
      rw [hW] at h
      simp [clV_none]
      apply hK; clear hK K
      refine L_reg [2, 3, 4, 21] (fun K hK => ?_)
      simp
      apply hK; clear hK K
      refine L_true (by simp) ?_
      refine L_reg [2, 3, 4, 5] (fun K hK => ?_)
      simp
      apply hK; clear hK K
      exact L_ret ⟨.inr rfl, _, rfl, h⟩
    | some x =>
      obtain ⟨a, c, len⟩ := x
      rw [hW] at h
      simp [clV_some]
      apply hK; clear hK K
      refine L_reg [2, 3, 4, 21] (fun K hK => ?_)
      simp
      apply hK; clear hK K
      refine L_false (by simp) ?_
      refine L_reg [2, 3, 4, 5] (fun K hK => ?_)
      simp
      apply hK; clear hK K
      exact L_ret ⟨.inr rfl, _, rfl, h⟩
  · rw [if_neg hc] at h
    refine L_reg [0, 6, 11] (fun K hK => ?_)
    simp
    apply hK; clear hK K
    refine L_true (by simp [hc]) ?_
    refine L_reg [2, 3, 4, 5] (fun K hK => ?_)
    simp
    apply hK; clear hK K
    exact L_ret ⟨.inr rfl, _, rfl, h⟩
end Go.Proofs.Ytlghgbdelmiakaa

/- Proofs that a word is not even are checked; straight words. -/
namespace Go.Proofs.Ytlghgbdelmiakaa
open Go Go.Proofs.Ytlghgbdelmiakaa.AX

theorem Proves_e (w : List UInt8) (m f l : Int) (H : AH) (Q : AV → AH → Prop) (h : ∀ H', Ext H H' → Q (.int .i64 (provS w m f l)) H') : AC Try.prog 17 [.str w, .int .i64 m, .int .i64 f, .int .i64 l] H Q := by
  refine L_body 47 Try.func17 rfl rfl ?_
  unfold provS at h
  have h0 := h H (.refl _)
  refine L_reg [0, 1, 2, 3] (fun K hK => ?_)
  simp
  apply hK; clear hK K
  refine L_reg [0, 1, 2, 3, 9] (fun K hK => ?_)
  simp [okFn_low]
  refine Check_ac w _ _ ?_
  simp
  apply hK; clear hK K
  by_cases hc : chk w = 0
  · have hk := chk_zero hc
    have hk1 := hk.lo
    have hk2 := hk.hi
    rw [if_neg (by simp [hc])] at h0
    refine L_reg [0, 1, 2, 3, 9, 14] (fun K hK => ?_)
    simp [hc]
    apply hK; clear hK K
    refine L_false (by simp) ?_
    by_cases hm : 0 ≤ m ∧ m < w.length
    · by_cases hf : 0 ≤ f ∧ f < w.length
      · refine L_reg [0, 1, 2, 3, 25] (fun K hK => ?_)
        simp [okFn_low]
        refine isLetter_ac _ _ _ _ ?_
        simp [hm, okFn_low]
        refine isLetter_ac _ _ _ _ ?_
        simp [hf, pickV]
        apply hK; clear hK K
        refine L_false (by simp) ?_
        rw [if_neg (fun hh => hh ⟨hm, hf⟩)] at h0
        by_cases hl : 1 ≤ l ∧ l ≤ w.length
        · rw [if_neg (fun hh => hh hl)] at h0
          refine L_reg [0, 1, 2, 3, 33] (fun K hK => ?_)
          simp [pickV, show ¬ l < 1 by omega]
          apply hK; clear hK K
          refine L_false (by simp; omega) ?_
          obtain ⟨m, rfl⟩ := Int.eq_ofNat_of_zero_le hm.1
          obtain ⟨f, rfl⟩ := Int.eq_ofNat_of_zero_le hf.1
          obtain ⟨l, rfl⟩ := Int.eq_ofNat_of_zero_le (show 0 ≤ l by omega)
          rw [if_neg (by simp [hc]), if_neg (fun hh => hh ⟨hm, hf⟩), if_neg (fun hh => hh hl)] at h
          simp only [Int.toNat_natCast] at h
          refine L_reg [1, 2, 10] (fun K hK => ?_)
          simp [okFn_low]
          refine bandsAround_ac w l _ _ hk.ok (by omega) (by omega) (by omega) (fun v H2 hO hE => ?_)
          simp
          apply hK; clear hK K
          have hv := hO.own.ls
          obtain ⟨r1, p1, v1, hix, hld⟩ := ls_ix hv (i := m) (by simp; omega)
          obtain ⟨r2, p2, v2, hiy, hldy⟩ := ls_ix hv (i := f) (by simp; omega)
          rw [cl_g (by omega)] at hld hldy
          have b1 := bb_le (w := w) (i := m) (len := l)
          have b2 := bb_le (w := w) (i := f) (len := l)
          refine L_regT mixed [46] (by kernel_rfl) (fun K hK => ?_)
          simp [hix, hld, hiy, hldy, wrap_i64 (a := (bb w l m : Int) - bb w l f) (by omega)]
          apply hK; clear hK K
          refine L_dec (bb w l m < bb w l f + 2) (by simp; omega) (fun hp => ?_) (fun hp => ?_)
          · refine L_reg [8] (fun K hK => ?_)
            simp
            apply hK; clear hK K
            exact L_ret ⟨.inr rfl, _, rfl, by simpa [hp] using h _ hE⟩
          · refine L_reg [8] (fun K hK => ?_)
            simp
            apply hK; clear hK K
            exact L_ret ⟨.inr rfl, _, rfl, by simpa [hp] using h _ hE⟩
        · rw [if_pos hl] at h0
          by_cases h1 : l < 1
          · refine L_reg [0, 1, 2, 3, 33] (fun K hK => ?_)
            simp [pickV, h1]
            apply hK; clear hK K
            refine L_true (by simp) ?_
            refine L_reg [8] (fun K hK => ?_)
            simp
            apply hK; clear hK K
            exact L_ret ⟨.inr rfl, _, rfl, h0⟩
          · refine L_reg [0, 1, 2, 3, 33] (fun K hK => ?_)
            simp [pickV, h1]
            apply hK; clear hK K
            refine L_true (by simp; omega) ?_
            refine L_reg [8] (fun K hK => ?_)
            simp
            apply hK; clear hK K
            exact L_ret ⟨.inr rfl, _, rfl, h0⟩
      · rw [if_pos (by simp only [not_and]; exact fun _ => by omega)] at h0
        refine L_reg [0, 1, 2, 3, 25] (fun K hK => ?_)
        simp [okFn_low]
        refine isLetter_ac _ _ _ _ ?_
        simp [hm, okFn_low]
        refine isLetter_ac _ _ _ _ ?_
        simp [hf, pickV]
        apply hK; clear hK K
        refine L_true (by simp) ?_
        refine L_reg [8] (fun K hK => ?_)
        simp
        apply hK; clear hK K
        exact L_ret ⟨.inr rfl, _, rfl, h0⟩
    · rw [if_pos (by simp only [not_and]; intro h1; exact absurd h1 hm)] at h0
      refine L_reg [0, 1, 2, 3, 25] (fun K hK => ?_)
      simp [okFn_low]
      refine isLetter_ac _ _ _ _ ?_
      simp [hm, pickV]
      apply hK; clear hK K
      refine L_true (by simp) ?_
      refine L_reg [8] (fun K hK => ?_)
      simp
      apply hK; clear hK K
      exact L_ret ⟨.inr rfl, _, rfl, h0⟩
  · rw [if_pos (by simpa using hc)] at h0
    refine L_reg [0, 1, 2, 3, 9, 14] (fun K hK => ?_)
    simp
    apply hK; clear hK K
    refine L_true (by simp [hc]) ?_
    refine L_reg [8] (fun K hK => ?_)
    simp
    apply hK; clear hK K
    exact L_ret ⟨.inr rfl, _, rfl, h0⟩
theorem Proves_ac (w : List UInt8) (m f l : Int) (H : AH) (Q : AV → AH → Prop) (h : Q (.int .i64 (provS w m f l)) H) : AC Try.prog 17 [.str w, .int .i64 m, .int .i64 f, .int .i64 l] H Q :=
  AC.quiet (belB_int _ _ _ _) (fun Q h => Proves_e w m f l H Q h) Q h
theorem Straight_e (w : List UInt8) (H : AH) (Q : AV → AH → Prop) (h : ∀ H', Ext H H' → Q (strV w) H') : AC Try.prog 33 [.str w] H Q := by
  refine L_body 27 Try.func33 rfl rfl ?_
  unfold strV at h
  refine L_reg [0] (fun K hK => ?_)
  simp
  apply hK; clear hK K
  refine L_reg [0, 4] (fun K hK => ?_)
  simp [okFn_low]
  refine Check_ac w _ _ ?_
  simp
  apply hK; clear hK K
  by_cases hc : chk w = 0
  · have hk := chk_zero hc
    have hk1 := hk.lo
    have hk2 := hk.hi
    refine L_reg [0, 4, 10] (fun K hK => ?_)
    simp [hc]
    apply hK; clear hK K
    refine L_false (by simp) ?_
    refine L_reg [0, 5] (fun K hK => ?_)
    simp
    apply hK; clear hK K
    refine L_block (L_loopK [0, 5] [5] (fun n vs H' => ∃ len : Nat, n = w.length + 1 - len ∧ 1 ≤ len ∧ len ≤ w.length + 1 ∧ vs = [.int .i64 len] ∧ Ext H H' ∧ ∀ l, 1 ≤ l → l < len → clA (bb w l) (most w true l) = none) _ [.int .i64 1] rfl rfl ⟨1, rfl, by omega, by omega, rfl, .refl _, fun l _ hl => by omega⟩ ?_)
    rintro n _ H1 ⟨len, rfl, h1, hle, rfl, hE, hno⟩
    refine L_reg [0, 5, 15] (fun K hK => ?_)
    simp
    apply hK; clear hK K
    refine L_dec (len ≤ w.length) (by simp) (fun hlt => ?_) (fun hge => L_exit ?_)
    · refine L_block ?_
      refine L_reg [0, 5, 6] (fun K hK => ?_)
      simp [okFn_low]
      refine bandsAlong_ac w len _ _ hk.ok (by omega) hlt (fun v H2 hO hE2 => ?_)
      simp
      apply hK; clear hK K
      have hcl : cl (fun i => bnd ((w.drop i).take len)) (w.length - len + 1) = cl (bb w len) (most w true len) := by
        simp only [most, if_true]
        exact cl_congr fun i hi => (bb_straight (by omega)).symm
      rw [hcl] at hO
      have hM0 : 0 < most w true len := by simp [most]
      have hM1 : most w true len ≤ 16 := by simp [most]; omega
      have hv := hO.own.ls
      obtain ⟨a, ha, hmx, hmax⟩ := cl_max (b := bb w len) hM0
      obtain ⟨c, hcc, hmn, hmin⟩ := cl_min (b := bb w len) hM0
      have b1 := bb_le (w := w) (i := a) (len := len)
      have b2 := bb_le (w := w) (i := c) (len := len)
      have hE3 := hE.trans hE2
      refine L_reg [0, 5, 26] (fun K hK => ?_)
      simp [okFn_low]
      refine Max_ac v _ _ _ (by simp; omega) (by simp; omega) hv ?_
      rw [hmx]
      simp [okFn_low]
      refine Min_ac v _ _ _ (by simp; omega) (by simp; omega) hv ?_
      rw [hmn]
      simp [wrap_i64 (a := (bb w len a : Int) - bb w len c) (by omega)]
      apply hK; clear hK K
      refine L_dec ((1 : Int) < (bb w len a : Int) - bb w len c) (by simp) (fun hp => ?_) (fun hp => ?_)
      · have hW : strB w = false := by
          cases hs : strB w with
          | false => rfl
          | true =>
            have h3 := (clA_none.1 (clW_none.1 (Option.isNone_iff_eq_none.1 hs) len h1 hlt)) a c ha hcc
            rw [pr_false] at h3; omega
        refine L_reg [2, 3] (fun K hK => ?_)
        simp
        apply hK; clear hK K
        exact L_ret ⟨.inr rfl, _, rfl, by simpa [hc, hW] using h _ hE3⟩
      · refine L_reg [0, 5] (fun K hK => ?_)
        simp [wrap_i64 (a := (len : Int) + 1) (by omega)]
        apply hK; clear hK K
        refine ⟨w.length + 1 - (len + 1), [.int .i64 (len + 1 : Nat)], by omega, by simp, len + 1, rfl, by omega, by omega, rfl, hE3, fun l g1 g2 => ?_⟩
        by_cases e : l = len
        · subst e
          rw [clA_none]
          intro a' c' ha' hc'
          have g3 := hmax a' ha'
          have g4 := hmin c' hc'
          rw [pr_false]; omega
        · exact hno l g1 (by omega)
    · have hW : strB w = true := by
        unfold strB
        rw [Option.isNone_iff_eq_none, clW_none]
        exact fun l g1 g2 => hno l g1 (by omega)
      refine L_reg [2, 3] (fun K hK => ?_)
      simp
      apply hK; clear hK K
      exact L_ret ⟨.inr rfl, _, rfl, by simpa [hc, hW] using h _ hE⟩
  · refine L_reg [0, 4, 10] (fun K hK => ?_)
    simp
    apply hK; clear hK K
    refine L_true (by simp [hc]) ?_
    refine L_reg [2, 3] (fun K hK => ?_)
    simp
    apply hK; clear hK K
    exact L_ret ⟨.inr rfl, _, rfl, by simpa [hc] using h _ (.refl _)⟩
theorem strV_bel (N : Nat) (w : List UInt8) : belB N 4 (strV w) = true := by
  unfold strV; split <;> simp [belB]
theorem Straight_ac (w : List UInt8) (H : AH) (Q : AV → AH → Prop) (h : Q (strV w) H) : AC Try.prog 33 [.str w] H Q :=
  AC.quiet (strV_bel _ _) (fun Q h => Straight_e w H Q h) Q h
end Go.Proofs.Ytlghgbdelmiakaa

/- Proofs that a word is not even are checked: the reference. -/
namespace Go.Proofs.Ytlghgbdelmiakaa
open Go Go.Proofs.Ytlghgbdelmiakaa.AX

end Go.Proofs.Ytlghgbdelmiakaa

/- Even words, the places of their bands, and where they are split. -/
namespace Go.Proofs.Ytlghgbdelmiakaa
open Go Go.Proofs.Ytlghgbdelmiakaa.AX

theorem neb (a b : Nat) : ((a : Int) != (b : Int)) = decide (a ≠ b) := by rw [Bool.eq_iff_iff]; simp; omega
theorem bdE_zero {n k : Int} (h : bdE n k = 0) : ∃ a b : Nat, n = a ∧ k = b ∧ 1 ≤ a ∧ a ≤ 16 ∧ b ≤ a := by
  unfold bdE at h
  split at h
  · rename_i h1
    exact ⟨n.toNat, k.toNat, by omega, by omega, by omega, by omega, by omega⟩
  · cases h
def mkL (n k i : Nat) : UInt8 := if (i + 1) * k / n = i * k / n then 97 else 98
def mkC (n k i : Nat) : AV := .int .i32 (if (i + 1) * k / n = i * k / n then 97 else 98)
/-- The row of letters, of which some are written. -/
def mkR (n k i : Nat) : List AV := (List.range i).map (mkC n k) ++ List.replicate (n - i) (.int .i32 0)
theorem mkR_len {n k i : Nat} (h : i ≤ n) : (mkR n k i).length = n := by simp [mkR]; omega
theorem mkR_set {n k i : Nat} (h : i < n) : (mkR n k i).set i (mkC n k i) = mkR n k (i + 1) := by
  unfold mkR
  rw [List.set_append_right _ _ (by simp), List.range_succ, List.map_append, List.length_map, List.length_range, Nat.sub_self]
  have : List.replicate (n - i) (AV.int .i32 0) = .int .i32 0 :: List.replicate (n - (i + 1)) (.int .i32 0) := by
    rw [← List.replicate_succ]; congr 1; omega
  rw [this]
  simp
theorem mkR_get {n k i : Nat} (h : i < n) : known (mkR n k i)[i]? = some (.int .i32 0) := by
  unfold mkR
  rw [List.getElem?_append_right (by simp), List.length_map, List.length_range, Nat.sub_self]
  have : List.replicate (n - i) (AV.int .i32 0) = .int .i32 0 :: List.replicate (n - (i + 1)) (.int .i32 0) := by
    rw [← List.replicate_succ]; congr 1; omega
  rw [this]
  rfl
theorem mk_div {n k i : Nat} (hn : 1 ≤ n) (hn2 : n ≤ 16) (hk : k ≤ n) (hi : i < n) : (i + 1) * k ≤ 256 ∧ i * k ≤ 256 := by
  have h1 : (i + 1) * k ≤ 16 * 16 := Nat.mul_le_mul (by omega) (by omega)
  have h2 : i * k ≤ 16 * 16 := Nat.mul_le_mul (by omega) (by omega)
  exact ⟨h1, h2⟩
theorem ldn_full {H : AH} {r s : Nat} {c : List AV} (hr : H[r]? = some (.row c 0 s false)) (hk : ∀ v ∈ c, v ≠ .undef) : ldn H r 0 c.length 0 = some c := by
  cases c with
  | nil => rfl
  | cons v l =>
    simp only [ldn, List.length_cons, hr, List.drop_zero]
    rw [if_pos (.inl trivial)]
    have := takeKnown_row (l := v :: l) hk []
    simpa using this
theorem even_e (n k : Nat) (hn : 1 ≤ n) (hn2 : n ≤ 16) (hk : k ≤ n) (H : AH) (Q : AV → AH → Prop) (h : ∀ H', Ext H H' → Q (.str (madeS n k)) H') : AC Try.prog 51 [.int .i64 n, .int .i64 k] H Q := by
  refine L_body 35 Try.func51 rfl rfl ?_
  refine L_reg [0, 1] (fun K hK => ?_)
  simp
  apply hK; clear hK K
  refine L_reg [0, 1, 5] (fun K hK => ?_)
  simp [make_z elz72 (show n ≤ 16777216 by omega)]
  apply hK; clear hK K
  refine L_reg [0, 1, 5, 10, 11] (fun K hK => ?_)
  simp
  apply hK; clear hK K
  refine L_block (L_loopV [11] (fun m vs H' => ∃ (i s : Nat), m = n - i ∧ i ≤ n ∧ vs = [.int .i64 i] ∧ H'[H.length]? = some (.row (mkR n k i) 0 s false) ∧ Ext H H') _ [.int .i64 0] rfl ⟨0, 0, rfl, by omega, rfl, by simp [mkR], .push _ _⟩ ?_)
  rintro m _ H1 ⟨i, s, rfl, hi, rfl, hrow, hE⟩
  refine L_reg [0, 1, 5, 10, 11, 12] (fun K hK => ?_)
  simp
  apply hK; clear hK K
  refine L_dec (i < n) (by simp) (fun hlt => ?_) (fun hge => L_exit ?_)
  · refine L_block ?_
    refine L_reg [0, 1, 5, 6, 10, 11] (fun K hK => ?_)
    simp
    apply hK; clear hK K
    have hlen := mkR_len (n := n) (k := k) (i := i) hi
    obtain ⟨H2, s2, st2, r2, l2, k2⟩ := st_cell sc21 (x := .int .i32 97) (off := i) hrow rfl (mkR_get hlt)
    have hE2 : Ext H H2 := ⟨by have := hE.1; omega, fun x hx => by rw [k2 x (by omega)]; exact hE.2 x hx⟩
    refine L_reg [0, 1, 5, 6, 10, 11] (fun K hK => ?_)
    simp [hlt, st2]
    apply hK; clear hK K
    obtain ⟨d1, d2⟩ := mk_div hn hn2 hk hlt
    have e1 : ((i : Int) + 1) * k = (((i + 1) * k : Nat) : Int) := by push_cast; rfl
    have e2 : (i : Int) * k = ((i * k : Nat) : Int) := by push_cast; rfl
    have t1 := tdiv_nat ((i + 1) * k) n
    have t2 := tdiv_nat (i * k) n
    have hn0 : n ≠ 0 := by omega
    have q1 : (i + 1) * k / n ≤ 256 := Nat.le_trans (Nat.div_le_self _ _) d1
    have q2 : i * k / n ≤ 256 := Nat.le_trans (Nat.div_le_self _ _) d2
    have hC : mkC n k i = .int .i32 (if (i + 1) * k / n = i * k / n then 97 else 98) := rfl
    have hset := mkR_set (n := n) (k := k) hlt
    generalize (i + 1) * k = x1 at *
    generalize i * k = x2 at *
    generalize x1 / n = y1 at *
    generalize x2 / n = y2 at *
    refine L_regT mixed [0, 1, 5, 6, 10, 11, 28] (by kernel_rfl) (fun K hK => ?_)
    simp [wrap_i64 (a := (i : Int) + 1) (by omega), e1, e2, wrap_i64 (a := (x1 : Int)) (by omega), wrap_i64 (a := (x2 : Int)) (by omega), hn0, t1, t2, wrap_i64 (a := (y1 : Int)) (by omega), wrap_i64 (a := (y2 : Int)) (by omega)]
    apply hK; clear hK K
    by_cases heq : y1 = y2
    · refine L_false (by simp [heq]) ?_
      refine L_reg [0, 1, 5, 10, 11] (fun K hK => ?_)
      simp [wrap_i64 (a := (i : Int) + 1) (by omega)]
      apply hK; clear hK K
      refine ⟨n - (i + 1), [.int .i64 (i + 1 : Nat)], by omega, by simp, i + 1, s2, rfl, by omega, rfl, ?_, hE2⟩
      rw [r2, ← hset, hC, if_pos heq]
    · obtain ⟨H3, s3, st3, r3, l3, k3⟩ := st_cell sc21 (x := .int .i32 98) (y := .int .i32 97) (off := i) r2 rfl (by rw [List.getElem?_set]; simp [hlen, hlt])
      have hE3 : Ext H H3 := ⟨by have := hE2.1; omega, fun x hx => by rw [k3 x (by omega)]; exact hE2.2 x hx⟩
      refine L_true (by rw [show oval _ (Operand.tmp 28) = AV.bool ((y1 : Int) != (y2 : Int)) from rfl, neb]; simp [heq]) ?_
      refine L_reg [0, 1, 5, 10, 11] (fun K hK => ?_)
      simp [hlt, st3]
      apply hK; clear hK K
      refine L_reg [0, 1, 5, 10, 11] (fun K hK => ?_)
      simp [wrap_i64 (a := (i : Int) + 1) (by omega)]
      apply hK; clear hK K
      refine ⟨n - (i + 1), [.int .i64 (i + 1 : Nat)], by omega, by simp, i + 1, s3, rfl, by omega, rfl, ?_, hE3⟩
      rw [r3, List.set_set, ← hset, hC, if_neg heq]
  · have hin : i = n := by omega
    subst hin
    have hfull : mkR i k i = ((List.range i).map fun j => (if (j + 1) * k / i = j * k / i then 97 else 98 : Int)).map (AV.int .i32) := by
      simp [mkR, mkC, List.map_map]
    rw [hfull] at hrow
    have hld := ldn_full hrow (by intro v hv; obtain ⟨x, -, rfl⟩ := List.mem_map.1 hv; simp)
    have hrun := runes72 (off := 0) (full := false) hld
    rw [runes_ascii (by
      intro x hx
      obtain ⟨j, -, rfl⟩ := List.mem_map.1 hx
      split <;> omega)] at hrun
    have hS : ((List.range i).map fun j => (if (j + 1) * k / i = j * k / i then 97 else 98 : Int)).map (fun n => UInt8.ofNat n.toNat) = madeS i k := by
      unfold madeS
      rw [List.map_map]
      refine List.map_congr_left fun j _ => ?_
      simp only [Function.comp]
      split <;> rfl
    rw [hS] at hrun
    simp only [List.length_map, List.length_range] at hrun
    refine L_regC [4] rfl rfl rfl rfl (by simp only [aRunesO]; rw [show oval _ (Operand.tmp 33) = AV.slice (some H.length) 0 i 0 1 false from rfl, hrun]; rfl) rfl (fun K hK => ?_)
    simp
    apply hK; clear hK K
    exact L_ret ⟨.inr rfl, _, rfl, h _ hE⟩
theorem even_ac (n k : Nat) (hn : 1 ≤ n) (hn2 : n ≤ 16) (hk : k ≤ n) (H : AH) (Q : AV → AH → Prop) (h : Q (.str (madeS n k)) H) : AC Try.prog 51 [.int .i64 n, .int .i64 k] H Q :=
  AC.quiet (by rfl) (fun Q h => even_e n k hn hn2 hk H Q h) Q h
end Go.Proofs.Ytlghgbdelmiakaa

/- Even words by program and reference; places; splits. -/
namespace Go.Proofs.Ytlghgbdelmiakaa
open Go Go.Proofs.Ytlghgbdelmiakaa.AX

def makeV (n k : Int) : AV := if bdE n k = 0 then .tuple [.str (madeS n.toNat k.toNat), .int .i64 0] else .tuple [.str [], .int .i64 (bdE n k)]
theorem Make_ac (n k : Int) (H : AH) (Q : AV → AH → Prop) (h : Q (makeV n k) H) : AC Try.prog 21 [.int .i64 n, .int .i64 k] H Q := by
  refine L_body 16 Try.func21 rfl rfl ?_
  unfold makeV at h
  refine L_reg [0, 1] (fun K hK => ?_)
  simp
  apply hK; clear hK K
  refine L_reg [0, 1, 6] (fun K hK => ?_)
  simp [okFn_low]
  refine checkBands_ac n k _ _ ?_
  simp
  apply hK; clear hK K
  by_cases hc : bdE n k = 0
  · rw [if_pos hc] at h
    refine L_reg [0, 1, 6, 11] (fun K hK => ?_)
    simp [hc]
    apply hK; clear hK K
    refine L_false (by simp) ?_
    obtain ⟨a, b, rfl, rfl, h1, h2, h3⟩ := bdE_zero hc
    refine L_reg [4, 5] (fun K hK => ?_)
    simp [okFn_low]
    refine even_ac a b h1 h2 h3 _ _ ?_
    simp
    apply hK; clear hK K
    exact L_ret ⟨.inr rfl, _, rfl, h⟩
  · rw [if_neg hc] at h
    refine L_reg [0, 1, 6, 11] (fun K hK => ?_)
    simp
    apply hK; clear hK K
    refine L_true (by simp [hc]) ?_
    refine L_reg [4, 5] (fun K hK => ?_)
    simp
    apply hK; clear hK K
    exact L_ret ⟨.inr rfl, _, rfl, h⟩
/-! ### Places -/
theorem nthB_skip {w : List UInt8} {i j : Nat} (h : i < w.length) (h1 : w[i] ≠ 98) : nthB (w.drop i) j = nthB (w.drop (i + 1)) j + 1 := by
  rw [List.drop_eq_getElem_cons h]
  simp [nthB, h1]
theorem nthB_zero {w : List UInt8} {i : Nat} (h : i < w.length) (h1 : w[i] = 98) : nthB (w.drop i) 0 = 0 := by
  rw [List.drop_eq_getElem_cons h]
  simp [nthB, h1]
theorem nthB_succ {w : List UInt8} {i j : Nat} (h : i < w.length) (h1 : w[i] = 98) : nthB (w.drop i) (j + 1) = nthB (w.drop (i + 1)) j + 1 := by
  rw [List.drop_eq_getElem_cons h]
  simp [nthB, h1]
theorem bnd_drop {w : List UInt8} {i : Nat} (h : i < w.length) : bnd (w.drop i) = bnd (w.drop (i + 1)) + if w[i] = 98 then 1 else 0 := by
  unfold bnd
  rw [List.drop_eq_getElem_cons h, List.count_cons]
  simp only [beq_iff_eq]
theorem place_e (w : List UInt8) (j : Nat) (hw : okW w = true) (hl : w.length ≤ 1000000) (hj : j < bnd w) (H : AH) (Q : AV → AH → Prop) (h : ∀ H', Ext H H' → Q (.int .i64 (nthB w j)) H') : AC Try.prog 54 [.str w, .int .i64 j] H Q := by
  refine L_body 20 Try.func54 rfl rfl ?_
  have hjl : j < w.length := by have := bnd_le w; omega
  refine L_reg [0, 1] (fun K hK => ?_)
  simp
  apply hK; clear hK K
  refine L_reg [1, 8] (fun K hK => ?_)
  simp
  apply hK; clear hK K
  refine L_block (L_loopK [1, 8] [1] (fun n vs H' => ∃ i q : Nat, n = w.length - i ∧ i ≤ w.length ∧ q < bnd (w.drop i) ∧ nthB w j = i + nthB (w.drop i) q ∧ vs = [.int .i64 q] ∧ H' = H ++ [.iter w i]) _ [.int .i64 j] rfl rfl ⟨0, j, rfl, by omega, by simpa using hj, by simp, rfl, rfl⟩ ?_)
  rintro n _ _ ⟨i, q, rfl, hi, hq, hnth, rfl, rfl⟩
  have hlt : i < w.length := by
    rcases Nat.lt_or_ge i w.length with h1 | h1
    · exact h1
    · rw [List.drop_eq_nil_of_le h1] at hq; simp [bnd] at hq
  have hab := okW_get hw hlt
  have hia := iter_ascii (H := H) hlt (by rcases hab with e | e <;> rw [e] <;> decide)
  have hbd := bnd_drop hlt
  have hql : q ≤ w.length := by have := bnd_le (w.drop i); rw [List.length_drop] at this; omega
  have s1 := nthB_skip (w := w) (i := i) (j := q) hlt
  have s2 := nthB_zero (w := w) (i := i) hlt
  have s3 := fun q' => nthB_succ (w := w) (i := i) (j := q') hlt
  generalize w[i] = c at hab hia hbd s1 s2 s3
  refine L_reg [1, 8, 9, 10] (fun K hK => ?_)
  simp [hia]
  apply hK; clear hK K
  refine L_true (by simp) ?_
  refine L_block ?_
  refine L_reg [1, 5, 6, 8] (fun K hK => ?_)
  simp
  apply hK; clear hK K
  rcases hab with rfl | rfl
  · refine L_reg [1, 5, 8, 14] (fun K hK => ?_)
    simp
    apply hK; clear hK K
    refine L_true (by simp) ?_
    refine L_exit ?_
    simp at hbd
    exact ⟨w.length - (i + 1), [.int .i64 q], by omega, by simp, i + 1, q, rfl, by omega, by omega, by rw [hnth, s1 (by decide)]; omega, rfl, rfl⟩
  · refine L_reg [1, 5, 8, 14] (fun K hK => ?_)
    simp
    apply hK; clear hK K
    refine L_false (by simp) ?_
    simp at hbd
    cases q with
    | zero =>
      refine L_reg [1, 5, 8, 16] (fun K hK => ?_)
      simp
      apply hK; clear hK K
      refine L_true (by simp) ?_
      refine L_reg [4] (fun K hK => ?_)
      simp
      apply hK; clear hK K
      rw [s2 rfl] at hnth
      exact L_ret ⟨.inr rfl, _, rfl, by have := h (H ++ [.iter w (i + 1)]) (.push _ _); rw [hnth] at this; simpa using this⟩
    | succ q =>
      refine L_reg [1, 5, 8, 16] (fun K hK => ?_)
      simp
      apply hK; clear hK K
      refine L_false (by simp; omega) ?_
      refine L_reg [1, 8] (fun K hK => ?_)
      simp [wrap_i64 (a := (q : Int)) (by omega)]
      apply hK; clear hK K
      exact ⟨w.length - (i + 1), [.int .i64 q], by omega, by simp, i + 1, q, rfl, by omega, by omega, by rw [hnth, s3 q rfl]; omega, rfl, rfl⟩
theorem place_ac (w : List UInt8) (j : Nat) (hw : okW w = true) (hl : w.length ≤ 1000000) (hj : j < bnd w) (H : AH) (Q : AV → AH → Prop) (h : Q (.int .i64 (nthB w j)) H) : AC Try.prog 54 [.str w, .int .i64 j] H Q :=
  AC.quiet (belB_int _ _ _ _) (fun Q h => place_e w j hw hl hj H Q h) Q h
end Go.Proofs.Ytlghgbdelmiakaa

/- Places of bands, and where even words are split: program and reference. -/
namespace Go.Proofs.Ytlghgbdelmiakaa
open Go Go.Proofs.Ytlghgbdelmiakaa.AX

set_option maxRecDepth 100000 in
theorem bnd_tab : ((List.range 17).all fun n => (List.range (n + 1)).all fun k => Nat.beq n 0 || Nat.beq (bnd (madeS n k)) k) = true := by decide +kernel
theorem bnd_made {n k : Nat} (hn : 1 ≤ n) (hn2 : n ≤ 16) (hk : k ≤ n) : bnd (madeS n k) = k := by
  have h := List.all_eq_true.1 bnd_tab n (List.mem_range.2 (by omega))
  have h2 := List.all_eq_true.1 h k (List.mem_range.2 (by omega))
  have : Nat.beq n 0 = false := by
    cases h3 : Nat.beq n 0 with
    | false => rfl
    | true => have := Nat.eq_of_beq_eq_true h3; omega
  rw [this, Bool.false_or] at h2
  exact Nat.eq_of_beq_eq_true h2
def placeV (n k j : Int) : AV := if bdE n k = 0 then (if 0 ≤ j ∧ j < k then .tuple [.int .i64 (nthB (madeS n.toNat k.toNat) j.toNat), .int .i64 0] else .tuple [.int .i64 0, .int .i64 2]) else .tuple [.int .i64 0, .int .i64 (bdE n k)]
theorem Place_ac (n k j : Int) (H : AH) (Q : AV → AH → Prop) (h : Q (placeV n k j) H) : AC Try.prog 23 [.int .i64 n, .int .i64 k, .int .i64 j] H Q := by
  refine L_body 27 Try.func23 rfl rfl ?_
  unfold placeV at h
  refine L_reg [0, 1, 2] (fun K hK => ?_)
  simp
  apply hK; clear hK K
  refine L_reg [0, 1, 2, 8] (fun K hK => ?_)
  simp [okFn_low]
  refine checkBands_ac n k _ _ ?_
  simp
  apply hK; clear hK K
  by_cases hc : bdE n k = 0
  · rw [if_pos hc] at h
    refine L_reg [0, 1, 2, 8, 13] (fun K hK => ?_)
    simp [hc]
    apply hK; clear hK K
    refine L_false (by simp) ?_
    obtain ⟨a, b, rfl, rfl, h1, h2, h3⟩ := bdE_zero hc
    by_cases hj : 0 ≤ j ∧ j < b
    · rw [if_pos hj] at h
      obtain ⟨j, rfl⟩ := Int.eq_ofNat_of_zero_le hj.1
      refine L_reg [0, 1, 2, 21] (fun K hK => ?_)
      simp [pickV, show ¬ (j : Int) < 0 by omega]
      apply hK; clear hK K
      refine L_false (by simp; omega) ?_
      simp only [Int.toNat_natCast] at h
      refine L_reg [6, 7] (fun K hK => ?_)
      simp [okFn_low]
      refine even_ac a b h1 h2 h3 _ _ ?_
      simp [okFn_low, okFn_low]
      refine place_ac _ j (madeS_ok _ _) (by rw [madeS_len]; omega) (by rw [bnd_made h1 h2 h3]; omega) _ _ ?_
      simp
      apply hK; clear hK K
      exact L_ret ⟨.inr rfl, _, rfl, h⟩
    · rw [if_neg hj] at h
      by_cases hj0 : j < 0
      · refine L_reg [0, 1, 2, 21] (fun K hK => ?_)
        simp [pickV, hj0]
        apply hK; clear hK K
        refine L_true (by simp) ?_
        refine L_reg [6, 7] (fun K hK => ?_)
        simp
        apply hK; clear hK K
        exact L_ret ⟨.inr rfl, _, rfl, h⟩
      · refine L_reg [0, 1, 2, 21] (fun K hK => ?_)
        simp [pickV, hj0]
        apply hK; clear hK K
        refine L_true (by simp; omega) ?_
        refine L_reg [6, 7] (fun K hK => ?_)
        simp
        apply hK; clear hK K
        exact L_ret ⟨.inr rfl, _, rfl, h⟩
  · rw [if_neg hc] at h
    refine L_reg [0, 1, 2, 8, 13] (fun K hK => ?_)
    simp
    apply hK; clear hK K
    refine L_true (by simp [hc]) ?_
    refine L_reg [6, 7] (fun K hK => ?_)
    simp
    apply hK; clear hK K
    exact L_ret ⟨.inr rfl, _, rfl, h⟩
/-! ### Splits -/
def splitV (n k : Int) : AV := if bdE n k = 0 then (match splitS n.toNat k.toNat with | some m => .tuple [.int .i64 m, .int .i64 0] | none => .tuple [.int .i64 0, .int .i64 12]) else .tuple [.int .i64 0, .int .i64 (bdE n k)]
theorem splitS_some {n k m : Nat} (h1 : 1 ≤ m) (h2 : m < n) (h : m * k % n = 1) (h3 : ∀ j, 1 ≤ j → j < m → m * 0 + j * k % n ≠ 1) : splitS n k = some m := by
  unfold splitS
  refine fs_some (k := m) h1 (by omega) (by rw [if_pos h]) fun j g1 g2 => ?_
  have := h3 j g1 g2
  rw [if_neg (by simpa using this)]
theorem splitS_none {n k : Nat} (h3 : ∀ j, 1 ≤ j → j < n → j * k % n ≠ 1) : splitS n k = none := by
  unfold splitS
  exact fs_none fun j g1 g2 => by rw [if_neg (h3 j g1 (by omega))]
theorem Split_ac (n k : Int) (H : AH) (Q : AV → AH → Prop) (h : Q (splitV n k) H) : AC Try.prog 25 [.int .i64 n, .int .i64 k] H Q := by
  refine L_body 26 Try.func25 rfl rfl ?_
  unfold splitV at h
  refine L_reg [0, 1] (fun K hK => ?_)
  simp
  apply hK; clear hK K
  refine L_reg [0, 1, 6] (fun K hK => ?_)
  simp [okFn_low]
  refine checkBands_ac n k _ _ ?_
  simp
  apply hK; clear hK K
  by_cases hc : bdE n k = 0
  · rw [if_pos hc] at h
    refine L_reg [0, 1, 6, 12] (fun K hK => ?_)
    simp [hc]
    apply hK; clear hK K
    refine L_false (by simp) ?_
    obtain ⟨a, b, rfl, rfl, h1, h2, h3⟩ := bdE_zero hc
    simp only [Int.toNat_natCast] at h
    refine L_reg [0, 1, 7] (fun K hK => ?_)
    simp
    apply hK; clear hK K
    refine L_block (L_loopK [0, 1, 7] [7] (fun n vs H' => ∃ m : Nat, n = a + 1 - m ∧ 1 ≤ m ∧ m ≤ a + 1 ∧ vs = [.int .i64 m] ∧ H = H' ∧ ∀ j, 1 ≤ j → j < m → j * b % a ≠ 1) _ [.int .i64 1] rfl rfl ⟨1, rfl, by omega, by omega, rfl, rfl, fun j _ hj => by omega⟩ ?_)
    rintro n _ _ ⟨m, rfl, hm1, hm2, rfl, rfl, hno⟩
    refine L_reg [0, 1, 7, 16] (fun K hK => ?_)
    simp
    apply hK; clear hK K
    refine L_dec (m < a) (by simp) (fun hlt => ?_) (fun hge => L_exit ?_)
    · refine L_block ?_
      have hmb : m * b ≤ 256 := Nat.le_trans (Nat.mul_le_mul (show m ≤ 16 by omega) (show b ≤ 16 by omega)) (by omega)
      have e1 : (m : Int) * b = ((m * b : Nat) : Int) := by push_cast; rfl
      have t1 := tmod_nat (m * b) a
      have ha0 : a ≠ 0 := by omega
      have hS := splitS_some (n := a) (k := b) hm1 hlt
      have hno' : m * b % a ≠ 1 → ∀ j, 1 ≤ j → j < m + 1 → j * b % a ≠ 1 := fun hne j g1 g2 => by
        by_cases e : j = m
        · subst e; exact hne
        · exact hno j g1 (by omega)
      generalize m * b = x at *
      generalize x % a = y at *
      refine L_reg [0, 1, 7, 24] (fun K hK => ?_)
      simp [e1, wrap_i64 (a := (x : Int)) (by omega), ha0, t1]
      apply hK; clear hK K
      by_cases hy : y = 1
      · refine L_true (by simp [hy]) ?_
        refine L_reg [4, 5] (fun K hK => ?_)
        simp
        apply hK; clear hK K
        rw [hS hy (fun j g1 g2 => by simpa using hno j g1 g2)] at h
        exact L_ret ⟨.inr rfl, _, rfl, h⟩
      · refine L_false (by simp; omega) ?_
        refine L_reg [0, 1, 7] (fun K hK => ?_)
        simp [wrap_i64 (a := (m : Int) + 1) (by omega)]
        apply hK; clear hK K
        exact ⟨a + 1 - (m + 1), [.int .i64 (m + 1 : Nat)], by omega, by simp, m + 1, rfl, by omega, by omega, rfl, rfl, hno' hy⟩
    · rw [splitS_none fun j g1 g2 => hno j g1 (by omega)] at h
      refine L_reg [4, 5] (fun K hK => ?_)
      simp
      apply hK; clear hK K
      exact L_ret ⟨.inr rfl, _, rfl, h⟩
  · rw [if_neg hc] at h
    refine L_reg [0, 1, 6, 12] (fun K hK => ?_)
    simp
    apply hK; clear hK K
    refine L_true (by simp [hc]) ?_
    refine L_reg [4, 5] (fun K hK => ?_)
    simp
    apply hK; clear hK K
    exact L_ret ⟨.inr rfl, _, rfl, h⟩
end Go.Proofs.Ytlghgbdelmiakaa

/- Words turned: how they become one another. -/
namespace Go.Proofs.Ytlghgbdelmiakaa
open Go Go.Proofs.Ytlghgbdelmiakaa.AX

def sameI (a b : List UInt8) (s : Nat) : Int := match sameS a b s with | some i => i | none => -1
theorem sameS_some {a b : List UInt8} {s i : Nat} (h1 : s ≤ i) (h2 : i < a.length) (h : turnS a i = b) (h3 : ∀ j, s ≤ j → j < i → turnS a j ≠ b) : sameS a b s = some i := by
  unfold sameS
  exact fs_some (k := i) h1 (by omega) (by rw [if_pos h]) fun j g1 g2 => by rw [if_neg (h3 j g1 g2)]
theorem sameS_none {a b : List UInt8} {s : Nat} (h3 : ∀ j, s ≤ j → j < a.length → turnS a j ≠ b) : sameS a b s = none := by
  unfold sameS
  exact fs_none fun j g1 g2 => by rw [if_neg (h3 j g1 (by omega))]
theorem sameS_spec {a b : List UInt8} {s i : Nat} (h : sameS a b s = some i) : s ≤ i ∧ i < a.length ∧ turnS a i = b ∧ ∀ j, s ≤ j → j < i → turnS a j ≠ b := by
  unfold sameS at h
  by_cases hx : ∃ k, s ≤ k ∧ k < a.length ∧ turnS a k = b
  · obtain ⟨k, g1, g2, g3⟩ := hx
    -- the first
    have key : ∃ k, s ≤ k ∧ k < a.length ∧ turnS a k = b ∧ ∀ j, s ≤ j → j < k → turnS a j ≠ b := by
      induction k using Nat.strongRecOn with
      | _ k ih =>
        by_cases h4 : ∃ j, s ≤ j ∧ j < k ∧ turnS a j = b
        · obtain ⟨j, q1, q2, q3⟩ := h4
          exact ih j q2 q1 (by omega) q3
        · exact ⟨k, g1, g2, g3, fun j q1 q2 q3 => h4 ⟨j, q1, q2, q3⟩⟩
    obtain ⟨k, q1, q2, q3, q4⟩ := key
    have := sameS_some q1 q2 q3 q4
    unfold sameS at this
    rw [this] at h; cases h
    exact ⟨q1, q2, q3, q4⟩
  · have := sameS_none (a := a) (b := b) (s := s) fun j g1 g2 g3 => hx ⟨j, g1, g2, g3⟩
    unfold sameS at this
    rw [this] at h; cases h
theorem sameS_no {a b : List UInt8} {s : Nat} (h : sameS a b s = none) : ∀ j, s ≤ j → j < a.length → turnS a j ≠ b := by
  intro j h1 h2 h3
  unfold sameS at h
  have := fs_isNone.1 h j h1 (by omega)
  rw [if_pos h3] at this; cases this
/-! ### By the library's search -/
theorem prefixOf_iff {b l : List UInt8} : b.isPrefixOf l = true ↔ l.take b.length = b := by
  rw [List.isPrefixOf_iff_prefix, List.prefix_iff_eq_take]
  exact eq_comm
theorem occ_turn {a b : List UInt8} {s j : Nat} (hb : b.length = a.length) (h : s + j ≤ a.length) : Lib.occAt ((a ++ a).drop s) b j = decide (turnS a (s + j) = b) := by
  unfold Lib.occAt
  rw [Bool.eq_iff_iff, prefixOf_iff, decide_eq_true_iff, List.drop_drop, hb]
  have := win_turn (w := a) (s := s + j) h
  unfold win at this
  rw [this]
theorem occ_far {a b : List UInt8} {s j : Nat} (h0 : 0 < a.length) (hb : b.length = a.length) (h : a.length < s + j) : Lib.occAt ((a ++ a).drop s) b j = false := by
  unfold Lib.occAt
  cases hp : b.isPrefixOf (((a ++ a).drop s).drop j) with
  | false => rfl
  | true =>
    have := congrArg List.length (prefixOf_iff.1 hp)
    rw [List.drop_drop, List.length_take, List.length_drop, List.length_append, hb, Nat.min_def] at this
    split at this <;> omega
/-- The smallest turn from s on, up to a whole one. -/
def turnI (a b : List UInt8) (s : Nat) : Int := match sameS a b s with | some i => i | none => if a = b then a.length else -1
theorem index_turn {a b : List UInt8} {s : Nat} (h0 : 0 < a.length) (hb : b.length = a.length) (hs : s ≤ a.length) : (if Lib.index ((a ++ a).drop s) b < 0 then (-1 : Int) else s + Lib.index ((a ++ a).drop s) b) = turnI a b s := by
  unfold turnI
  cases h : sameS a b s with
  | some i =>
    obtain ⟨h1, h2, h3, h4⟩ := sameS_spec h
    have e : Lib.index ((a ++ a).drop s) b = ((i - s : Nat) : Int) := Lib.index_first (by simp; omega) (by
      rw [occ_turn hb (by omega), show s + (i - s) = i by omega]; simpa using h3) fun j hj => by
      rw [occ_turn hb (by omega)]; simpa using h4 (s + j) (by omega) (by omega)
    rw [e, if_neg (by omega)]
    simp only []
    omega
  | none =>
    have hno := sameS_no h
    by_cases hab : a = b
    · have e : Lib.index ((a ++ a).drop s) b = ((a.length - s : Nat) : Int) := Lib.index_first (by simp; omega) (by
        rw [occ_turn hb (by omega), show s + (a.length - s) = a.length by omega, turnS_all]; simpa using hab) fun j hj => by
        rw [occ_turn hb (by omega)]; simpa using hno (s + j) (by omega) (by omega)
      rw [e, if_neg (by omega)]
      simp only [hab, if_true]
      rw [← hab]
      omega
    · have e : Lib.index ((a ++ a).drop s) b = -1 := Lib.index_none fun j hj => by
        rcases Nat.lt_or_ge a.length (s + j) with h1 | h1
        · exact occ_far h0 hb h1
        · rw [occ_turn hb h1]
          rcases Nat.lt_or_ge (s + j) a.length with h2 | h2
          · simpa using hno (s + j) (by omega) h2
          · rw [show s + j = a.length by omega, turnS_all]; simpa using hab
      rw [e, if_pos (by omega), if_neg hab]
theorem turned_ac {m : Int} (a b : List UInt8) (s : Nat) (h0 : 0 < a.length) (hb : b.length = a.length) (hs : s ≤ a.length) (hl : a.length ≤ 1000) (H : AH) (hg : GM m H) (Q : AV → AH → Prop) (h : Q (.int .i64 (turnI a b s)) H) : AC Try.prog 57 [.str a, .str b, .int .i64 s] H Q := by
  refine L_body 19 Try.func57 rfl rfl ?_
  rw [← index_turn h0 hb hs] at h
  refine L_reg [0, 1, 2] (fun K hK => ?_)
  simp
  apply hK; clear hK K
  have h1 := slFrom9 (s := a ++ a) (a := s) (by simp; omega) .i64
  refine L_reg [2, 7] (fun K hK => ?_)
  simp [okFn_low]
  refine Repeat_ac _ _ _ (by omega) ?_
  simp [okFn_low, h1]
  refine Index_ac _ _ _ _ (by simp; omega) hg ?_
  simp
  apply hK; clear hK K
  have hge := Lib.index_ge ((a ++ a).drop s) b
  have hle := Lib.index_le ((a ++ a).drop s) b
  rw [List.length_drop, List.length_append] at hle
  generalize Lib.index ((a ++ a).drop s) b = x at *
  refine L_reg [2, 7, 15] (fun K hK => ?_)
  simp
  apply hK; clear hK K
  refine L_dec (x < 0) (by simp) (fun hx => ?_) (fun hx => ?_)
  · refine L_reg [6] (fun K hK => ?_)
    simp
    apply hK; clear hK K
    exact L_ret ⟨.inr rfl, _, rfl, by simpa [hx] using h⟩
  · refine L_reg [6] (fun K hK => ?_)
    simp [wrap_i64 (a := (s : Int) + x) (by omega)]
    apply hK; clear hK K
    exact L_ret ⟨.inr rfl, _, rfl, by simpa [hx] using h⟩
end Go.Proofs.Ytlghgbdelmiakaa

/- Words turned: program and reference. -/
namespace Go.Proofs.Ytlghgbdelmiakaa
open Go Go.Proofs.Ytlghgbdelmiakaa.AX

def turnV (w : List UInt8) (s : Int) : AV := if chk w = 0 then (if 0 ≤ s ∧ s < w.length then .tuple [.str (turnS w s.toNat), .int .i64 0] else .tuple [.str [], .int .i64 1]) else .tuple [.str [], .int .i64 (chk w)]
theorem Turn_ac (w : List UInt8) (s : Int) (H : AH) (Q : AV → AH → Prop) (h : Q (turnV w s) H) : AC Try.prog 27 [.str w, .int .i64 s] H Q := by
  refine L_body 24 Try.func27 rfl rfl ?_
  unfold turnV at h
  refine L_reg [0, 1] (fun K hK => ?_)
  simp
  apply hK; clear hK K
  refine L_reg [0, 1, 6] (fun K hK => ?_)
  simp [okFn_low]
  refine Check_ac w _ _ ?_
  simp
  apply hK; clear hK K
  by_cases hc : chk w = 0
  · have hk := chk_zero hc
    have hk2 := hk.hi
    rw [if_pos hc] at h
    refine L_reg [0, 1, 6, 10] (fun K hK => ?_)
    simp [hc]
    apply hK; clear hK K
    refine L_false (by simp) ?_
    refine L_reg [0, 1, 15] (fun K hK => ?_)
    simp [okFn_low]
    refine isLetter_ac _ _ _ _ ?_
    simp
    apply hK; clear hK K
    by_cases hs : 0 ≤ s ∧ s < w.length
    · rw [if_pos hs] at h
      refine L_false (by simp [hs]) ?_
      obtain ⟨s, rfl⟩ := Int.eq_ofNat_of_zero_le hs.1
      have h1 := sl9 (s := w ++ w) (a := s) (b := s + w.length) (by omega) (by simp; omega) .i64 .i64
      rw [show s + w.length - s = w.length by omega, show ((s + w.length : Nat) : Int) = (s : Int) + w.length by omega] at h1
      have h2 := win_turn (w := w) (s := s) (by omega)
      unfold win at h2
      rw [h2] at h1
      simp only [Int.toNat_natCast] at h
      refine L_reg [4, 5] (fun K hK => ?_)
      simp [okFn_low]
      refine Repeat_ac _ _ _ (by omega) ?_
      simp [wrap_i64 (a := (s : Int) + w.length) (by omega), h1]
      apply hK; clear hK K
      exact L_ret ⟨.inr rfl, _, rfl, h⟩
    · rw [if_neg hs] at h
      refine L_true (by simp; omega) ?_
      refine L_reg [4, 5] (fun K hK => ?_)
      simp
      apply hK; clear hK K
      exact L_ret ⟨.inr rfl, _, rfl, h⟩
  · rw [if_neg hc] at h
    refine L_reg [0, 1, 6, 10] (fun K hK => ?_)
    simp
    apply hK; clear hK K
    refine L_true (by simp [hc]) ?_
    refine L_reg [4, 5] (fun K hK => ?_)
    simp
    apply hK; clear hK K
    exact L_ret ⟨.inr rfl, _, rfl, h⟩
def turnsV (w : List UInt8) : AV := if chk w = 0 then .tuple [.int .i64 (turnI w w 1), .int .i64 0] else .tuple [.int .i64 0, .int .i64 (chk w)]
theorem Turns_ac {m : Int} (w : List UInt8) (H : AH) (hg : GM m H) (Q : AV → AH → Prop) (h : Q (turnsV w) H) : AC Try.prog 29 [.str w] H Q := by
  refine L_body 13 Try.func29 rfl rfl ?_
  unfold turnsV at h
  refine L_reg [0] (fun K hK => ?_)
  simp
  apply hK; clear hK K
  refine L_reg [0, 4] (fun K hK => ?_)
  simp [okFn_low]
  refine Check_ac w _ _ ?_
  simp
  apply hK; clear hK K
  by_cases hc : chk w = 0
  · have hk := chk_zero hc
    have hk1 := hk.lo
    have hk2 := hk.hi
    rw [if_pos hc] at h
    refine L_reg [0, 4, 8] (fun K hK => ?_)
    simp [hc]
    apply hK; clear hK K
    refine L_false (by simp) ?_
    refine L_reg [2, 3] (fun K hK => ?_)
    simp [okFn_low]
    refine turned_ac w w 1 (by omega) rfl (by omega) (by omega) _ hg _ ?_
    simp
    apply hK; clear hK K
    exact L_ret ⟨.inr rfl, _, rfl, h⟩
  · rw [if_neg hc] at h
    refine L_reg [0, 4, 8] (fun K hK => ?_)
    simp
    apply hK; clear hK K
    refine L_true (by simp [hc]) ?_
    refine L_reg [2, 3] (fun K hK => ?_)
    simp
    apply hK; clear hK K
    exact L_ret ⟨.inr rfl, _, rfl, h⟩
def sameV (a b : List UInt8) : AV :=
  if chk a ≠ 0 then .tuple [.int .i64 0, .int .i64 (chk a)] else if chk b ≠ 0 then .tuple [.int .i64 0, .int .i64 (chk b)] else if a.length ≠ b.length then .tuple [.int .i64 0, .int .i64 5] else
  match sameS a b 0 with | some i => .tuple [.int .i64 i, .int .i64 0] | none => .tuple [.int .i64 0, .int .i64 12]
theorem rowS2 (H : AH) (a b : List UInt8) : rowV Try.prog 43 2 [(0, .str a), (1, .str b)] H = some (some (.slice (some H.length) 0 2 0 1 false), H ++ [.row [.str a, .str b] 0 2 false]) := by kernel_rfl
theorem turnI_zero {a b : List UInt8} (h0 : 0 < a.length) : turnI a b 0 = match sameS a b 0 with | some i => (i : Int) | none => -1 := by
  unfold turnI
  cases h : sameS a b 0 with
  | some i => rfl
  | none =>
    have := sameS_no h 0 (by omega) h0
    rw [turnS_zero] at this
    simp [this]
theorem ne5 {a b : Nat} (h : a = b) : ((a : Int) != (b : Int)) = false := by simp [h]
theorem ne6 {a b : Nat} (h : ¬ a = b) : ((a : Int) != (b : Int)) = true := by rw [bne_iff_ne]; omega
theorem Same_e {m : Int} (a b : List UInt8) (H : AH) (hg : GM m H) (Q : AV → AH → Prop) (h : ∀ H', Ext H H' → Q (sameV a b) H') : AC Try.prog 31 [.str a, .str b] H Q := by
  refine L_body 35 Try.func31 rfl rfl ?_
  unfold sameV at h
  refine L_reg [0, 1] (fun K hK => ?_)
  simp
  apply hK; clear hK K
  refine L_reg [0, 1, 12, 13, 14] (fun K hK => ?_)
  simp [rowS2]
  apply hK; clear hK K
  have hE : Ext H (H ++ [AObj.row [.str a, .str b] 0 2 false]) := .push _ _
  have hr : (H ++ [AObj.row [.str a, .str b] 0 2 false])[H.length]? = some (.row [.str a, .str b] 0 2 false) := by simp
  have h := h _ hE
  have hg := hg.ext hE
  generalize H ++ [AObj.row [.str a, .str b] 0 2 false] = H1 at *
  have l0 : ld H1 H.length 0 0 = some (.str a) := by rw [ld_row hr]; rfl
  have l1 : ld H1 H.length 1 0 = some (.str b) := by rw [ld_row hr]; rfl
  refine L_block (L_loopK [0, 1, 12, 13, 14] [14] (fun n vs H' => ∃ i : Nat, n = 2 - i ∧ i ≤ 2 ∧ vs = [.int .i64 i] ∧ H1 = H' ∧ (1 ≤ i → chk a = 0) ∧ (2 ≤ i → chk b = 0)) _ [.int .i64 0] rfl rfl ⟨0, rfl, by omega, rfl, rfl, by omega, by omega⟩ ?_)
  rintro n _ _ ⟨i, rfl, hi, rfl, rfl, ha, hb⟩
  match i, hi with
  | 0, _ =>
    refine L_reg [0, 1, 12, 13, 14, 15] (fun K hK => ?_)
    simp
    apply hK; clear hK K
    refine L_true (by simp) ?_
    refine L_block ?_
    refine L_reg [0, 1, 7, 12, 13, 14] (fun K hK => ?_)
    simp [l0]
    apply hK; clear hK K
    refine L_reg [0, 1, 8, 12, 13, 14] (fun K hK => ?_)
    simp [okFn_low]
    refine Check_ac a _ _ ?_
    simp
    apply hK; clear hK K
    refine L_reg [0, 1, 8, 12, 13, 14, 21] (fun K hK => ?_)
    simp
    apply hK; clear hK K
    by_cases hc : chk a = 0
    · refine L_false (by simp [hc]) ?_
      refine L_reg [0, 1, 12, 13, 14] (fun K hK => ?_)
      simp [wrap_i64 (a := (1 : Int)) (by omega)]
      apply hK; clear hK K
      exact ⟨1, [.int .i64 1], by omega, by simp, 1, rfl, by omega, rfl, rfl, fun _ => hc, by omega⟩
    · refine L_true (by simp [hc]) ?_
      refine L_reg [4, 5] (fun K hK => ?_)
      simp
      apply hK; clear hK K
      rw [if_pos hc] at h
      exact L_ret ⟨.inr rfl, _, rfl, h⟩
  | 1, _ =>
    have hca := ha (by omega)
    refine L_reg [0, 1, 12, 13, 14, 15] (fun K hK => ?_)
    simp
    apply hK; clear hK K
    refine L_true (by simp) ?_
    refine L_block ?_
    refine L_reg [0, 1, 7, 12, 13, 14] (fun K hK => ?_)
    simp [l1]
    apply hK; clear hK K
    refine L_reg [0, 1, 8, 12, 13, 14] (fun K hK => ?_)
    simp [okFn_low]
    refine Check_ac b _ _ ?_
    simp
    apply hK; clear hK K
    refine L_reg [0, 1, 8, 12, 13, 14, 21] (fun K hK => ?_)
    simp
    apply hK; clear hK K
    by_cases hc : chk b = 0
    · refine L_false (by simp [hc]) ?_
      refine L_reg [0, 1, 12, 13, 14] (fun K hK => ?_)
      simp [wrap_i64 (a := (2 : Int)) (by omega)]
      apply hK; clear hK K
      exact ⟨0, [.int .i64 2], by omega, by simp, 2, rfl, by omega, rfl, rfl, fun _ => hca, fun _ => hc⟩
    · refine L_true (by simp [hc]) ?_
      refine L_reg [4, 5] (fun K hK => ?_)
      simp
      apply hK; clear hK K
      rw [if_neg (fun hh => hh hca), if_pos hc] at h
      exact L_ret ⟨.inr rfl, _, rfl, h⟩
  | 2, _ =>
    have hca := ha (by omega)
    have hcb := hb (by omega)
    have hk := chk_zero hca
    have hk1 := hk.lo
    have hk2 := hk.hi
    rw [if_neg (fun hh => hh hca), if_neg (fun hh => hh hcb)] at h
    refine L_reg [0, 1, 12, 13, 14, 15] (fun K hK => ?_)
    simp
    apply hK; clear hK K
    refine L_false (by simp) ?_
    refine L_exit ?_
    refine L_reg [0, 1, 28] (fun K hK => ?_)
    simp
    apply hK; clear hK K
    by_cases hl : a.length = b.length
    · refine L_false (congrArg AV.bool (ne5 hl)) ?_
      rw [if_neg (fun hh => hh hl)] at h
      refine L_reg [9] (fun K hK => ?_)
      simp [okFn_low]
      refine turned_ac a b 0 (by omega) hl.symm (by omega) (by omega) _ hg _ ?_
      rw [turnI_zero (by omega)]
      cases hS : sameS a b 0 with
      | some i =>
        rw [hS] at h
        simp
        apply hK; clear hK K
        refine L_reg [9, 33] (fun K hK => ?_)
        simp
        apply hK; clear hK K
        refine L_false (by simp) ?_
        refine L_reg [4, 5] (fun K hK => ?_)
        simp
        apply hK; clear hK K
        exact L_ret ⟨.inr rfl, _, rfl, h⟩
      | none =>
        rw [hS] at h
        simp
        apply hK; clear hK K
        refine L_reg [9, 33] (fun K hK => ?_)
        simp
        apply hK; clear hK K
        refine L_true (by simp) ?_
        refine L_reg [4, 5] (fun K hK => ?_)
        simp
        apply hK; clear hK K
        exact L_ret ⟨.inr rfl, _, rfl, h⟩
    · refine L_true (congrArg AV.bool (ne6 hl)) ?_
      rw [if_pos hl] at h
      refine L_reg [4, 5] (fun K hK => ?_)
      simp
      apply hK; clear hK K
      exact L_ret ⟨.inr rfl, _, rfl, h⟩
theorem sameV_bel (N : Nat) (a b : List UInt8) : belB N 4 (sameV a b) = true := by
  unfold sameV
  repeat' split
  all_goals simp [belB]
theorem Same_ac {m : Int} (a b : List UInt8) (H : AH) (hg : GM m H) (Q : AV → AH → Prop) (h : Q (sameV a b) H) : AC Try.prog 31 [.str a, .str b] H Q :=
  AC.quiet (sameV_bel _ _ _) (fun Q h => Same_e a b H hg Q h) Q h
end Go.Proofs.Ytlghgbdelmiakaa

/- How two words become one another: the reference; divisors, and how many straight words there are. -/
namespace Go.Proofs.Ytlghgbdelmiakaa
open Go Go.Proofs.Ytlghgbdelmiakaa.AX

/-! ### Divisors -/
theorem div_ac (a b : Nat) (ha : a ≤ 1000000) (hb : b ≤ 1000000) (H : AH) (Q : AV → AH → Prop) (h : Q (.int .i64 (Nat.gcd a b)) H) : AC Try.prog 79 [.int .i64 a, .int .i64 b] H Q := by
  refine L_body 12 Try.func79 rfl rfl ?_
  refine L_reg [0, 1] (fun K hK => ?_)
  simp
  apply hK; clear hK K
  refine L_block (L_loopV [0, 1] (fun n vs H' => ∃ x y : Nat, n = y ∧ Nat.gcd x y = Nat.gcd a b ∧ x ≤ 1000000 ∧ y ≤ 1000000 ∧ vs = [.int .i64 x, .int .i64 y] ∧ H = H') _ [.int .i64 a, .int .i64 b] rfl ⟨a, b, rfl, rfl, ha, hb, rfl, rfl⟩ ?_)
  rintro n _ _ ⟨x, y, rfl, hg, hx, hy, rfl, rfl⟩
  refine L_reg [0, 1, 6] (fun K hK => ?_)
  simp
  apply hK; clear hK K
  refine L_dec (0 < n) (by simp) (fun hlt => ?_) (fun hge => L_exit ?_)
  · refine L_block ?_
    have hn0 : n ≠ 0 := by omega
    have t1 := tmod_nat x n
    have hlt2 := Nat.mod_lt x hlt
    have hg2 : Nat.gcd n (x % n) = Nat.gcd a b := by rw [← hg, Nat.gcd_comm x n, Nat.gcd_rec n x, Nat.gcd_comm]
    generalize x % n = z at *
    refine L_regT mixed [0, 1] (by kernel_rfl) (fun K hK => ?_)
    simp [hn0, t1]
    apply hK; clear hK K
    exact ⟨z, [.int .i64 n, .int .i64 z], by omega, by simp, n, z, rfl, hg2, by omega, by omega, rfl, rfl⟩
  · have : n = 0 := by omega
    subst this
    rw [Nat.gcd_zero_right] at hg
    refine L_reg [4] (fun K hK => ?_)
    simp
    apply hK; clear hK K
    exact L_ret ⟨.inr rfl, _, rfl, by rw [hg]; exact h⟩
/-! ### Straight words, counted -/
theorem phi_succ {n k : Nat} : (((List.range' 1 (k + 1)).filter fun j => Nat.gcd n j == 1).length) = ((List.range' 1 k).filter fun j => Nat.gcd n j == 1).length + if Nat.gcd n (k + 1) = 1 then 1 else 0 := by
  rw [List.range'_concat, List.filter_append, List.length_append]
  simp only [Nat.one_mul, Nat.add_comm 1 k]
  by_cases h : Nat.gcd n (k + 1) = 1
  · simp [h]
  · simp [h]
theorem coprimes_ac (n : Nat) (hn : n ≤ 1000) (H : AH) (Q : AV → AH → Prop) (h : Q (.int .i64 (phi n)) H) : AC Try.prog 63 [.int .i64 n] H Q := by
  refine L_body 17 Try.func63 rfl rfl ?_
  refine L_reg [0] (fun K hK => ?_)
  simp
  apply hK; clear hK K
  refine L_reg [0, 3] (fun K hK => ?_)
  simp
  apply hK; clear hK K
  refine L_reg [0, 3, 4] (fun K hK => ?_)
  simp
  apply hK; clear hK K
  refine L_block (L_loopV [3, 4] (fun m vs H' => ∃ k : Nat, m = n - k ∧ k ≤ n ∧ vs = [.int .i64 (((List.range' 1 k).filter fun j => Nat.gcd n j == 1).length : Nat), .int .i64 (k + 1 : Nat)] ∧ H = H') _ [.int .i64 0, .int .i64 1] rfl ⟨0, rfl, by omega, rfl, rfl⟩ ?_)
  rintro m _ _ ⟨k, rfl, hk, rfl, rfl⟩
  refine L_reg [0, 3, 4, 7] (fun K hK => ?_)
  simp
  apply hK; clear hK K
  refine L_dec (k + 1 ≤ n) (by simp; omega) (fun hlt => ?_) (fun hge => L_exit ?_)
  · refine L_block ?_
    have hs := phi_succ (n := n) (k := k)
    have hle : ((List.range' 1 k).filter fun j => Nat.gcd n j == 1).length ≤ k := Nat.le_trans (List.length_filter_le _ _) (by simp)
    generalize ((List.range' 1 k).filter fun j => Nat.gcd n j == 1).length = c at *
    generalize hc2 : ((List.range' 1 (k + 1)).filter fun j => Nat.gcd n j == 1).length = c2 at *
    have hd := div_ac n (k + 1) (by omega) (by omega) H
    obtain ⟨d, hdd⟩ : ∃ d, Nat.gcd n (k + 1) = d := ⟨_, rfl⟩
    simp only [hdd] at hs hd
    rw [show ((k + 1 : Nat) : Int) = (k : Int) + 1 by omega] at hd
    refine L_reg [0, 3, 4, 13] (fun K hK => ?_)
    simp [okFn_low]
    refine hd _ ?_
    simp
    apply hK; clear hK K
    by_cases e : d = 1
    · refine L_true (by simp [e]) ?_
      rw [if_pos e] at hs
      refine L_reg [0, 3, 4] (fun K hK => ?_)
      simp [wrap_i64 (a := (c : Int) + 1) (by omega)]
      apply hK; clear hK K
      refine L_reg [0, 3, 4] (fun K hK => ?_)
      simp [wrap_i64 (a := (k : Int) + 1 + 1) (by omega)]
      apply hK; clear hK K
      exact ⟨n - (k + 1), [.int .i64 (c2 : Nat), .int .i64 (k + 1 + 1 : Nat)], by omega, by simp [hs], k + 1, rfl, by omega, by rw [hc2], rfl⟩
    · refine L_false (by simp; omega) ?_
      rw [if_neg e] at hs
      refine L_reg [0, 3, 4] (fun K hK => ?_)
      simp [wrap_i64 (a := (k : Int) + 1 + 1) (by omega)]
      apply hK; clear hK K
      exact ⟨n - (k + 1), [.int .i64 (c2 : Nat), .int .i64 (k + 1 + 1 : Nat)], by omega, by simp [hs], k + 1, rfl, by omega, by rw [hc2], rfl⟩
  · have : k = n := by omega
    subst this
    refine L_reg [2] (fun K hK => ?_)
    simp
    apply hK; clear hK K
    exact L_ret ⟨.inr rfl, _, rfl, h⟩
end Go.Proofs.Ytlghgbdelmiakaa

/- How many straight words there are: program and reference. -/
namespace Go.Proofs.Ytlghgbdelmiakaa
open Go Go.Proofs.Ytlghgbdelmiakaa.AX

def pS (n k : Nat) : Nat := 1 + ((List.range' 1 k).map fun i => (n - i + 1) * phi i).sum
theorem pS_succ (n k : Nat) : pS n (k + 1) = pS n k + (n - (k + 1) + 1) * phi (k + 1) := by
  unfold pS
  rw [List.range'_concat, List.map_append, List.sum_append]
  simp only [Nat.one_mul, Nat.add_comm 1 k, List.map_cons, List.map_nil, List.sum_cons, List.sum_nil]
  omega
theorem phi_le (i : Nat) : phi i ≤ i := Nat.le_trans (List.length_filter_le _ _) (by simp)
theorem pS_le {n : Nat} (hn : n ≤ 16) : ∀ k, k ≤ 16 → pS n k ≤ 1 + k * 300
  | 0, _ => by simp [pS]
  | k + 1, h => by
    have := pS_le hn k (by omega)
    have h1 := phi_le (k + 1)
    have h2 : (n - (k + 1) + 1) * phi (k + 1) ≤ 17 * 16 := Nat.mul_le_mul (by omega) (by omega)
    rw [pS_succ]; omega
def pt (n k j : Nat) : Nat := pS n k + (n - (k + 1) + 1) * ((List.range' 1 j).filter fun i => Nat.gcd (k + 1) i == 1).length
def cntV (n : Int) : AV := if 1 ≤ n ∧ n ≤ 16 then .tuple [.int .i64 (cntS n.toNat), .int .i64 0] else .tuple [.int .i64 0, .int .i64 1]
theorem Count_ac (n : Int) (H : AH) (Q : AV → AH → Prop) (h : Q (cntV n) H) : AC Try.prog 35 [.int .i64 n] H Q := by
  refine L_body 24 Try.func35 rfl rfl ?_
  unfold cntV at h
  refine L_reg [0] (fun K hK => ?_)
  simp
  apply hK; clear hK K
  refine L_reg [0, 8] (fun K hK => ?_)
  simp [okFn_low]
  refine isRound_ac n _ _ ?_
  simp
  apply hK; clear hK K
  by_cases hc : 1 ≤ n ∧ n ≤ 16
  · rw [if_pos hc] at h
    refine L_false (by simp [hc]) ?_
    obtain ⟨n, rfl⟩ := Int.eq_ofNat_of_zero_le (show 0 ≤ n by omega)
    simp only [Int.toNat_natCast] at h
    refine L_reg [0, 4] (fun K hK => ?_)
    simp
    apply hK; clear hK K
    refine L_reg [0, 4, 5] (fun K hK => ?_)
    simp
    apply hK; clear hK K
    refine L_block (L_loopV [4, 5] (fun m vs H' => ∃ k : Nat, m = n - k ∧ k ≤ n ∧ vs = [.int .i64 (pS n k), .int .i64 (k + 1 : Nat)] ∧ H = H') _ [.int .i64 1, .int .i64 1] rfl ⟨0, rfl, by omega, rfl, rfl⟩ ?_)
    rintro m _ _ ⟨k, rfl, hk, rfl, rfl⟩
    refine L_reg [0, 4, 5, 11] (fun K hK => ?_)
    simp
    apply hK; clear hK K
    refine L_dec (k + 1 ≤ n) (by simp; omega) (fun hlt => ?_) (fun hge => L_exit ?_)
    · refine L_block ?_
      have hs := pS_succ n k
      have b1 := pS_le (n := n) (by omega) (k + 1) (by omega)
      have b2 := pS_le (n := n) (by omega) k (by omega)
      have hp := phi_le (k + 1)
      have hd := coprimes_ac (k + 1) (by omega) H
      rw [show ((k + 1 : Nat) : Int) = (k : Int) + 1 by omega] at hd
      have e1 : (n : Int) - (k + 1) + 1 = ((n - (k + 1) + 1 : Nat) : Int) := by omega
      obtain ⟨p2, hp2⟩ : ∃ p, pS n (k + 1) = p := ⟨_, rfl⟩
      rw [hp2] at hs b1
      obtain ⟨p1, hp1⟩ : ∃ p, pS n k = p := ⟨_, rfl⟩
      rw [hp1] at hs b2
      simp only [hp1]
      obtain ⟨f, hf⟩ : ∃ f, phi (k + 1) = f := ⟨_, rfl⟩
      simp only [hf] at hs hd hp
      obtain ⟨q, hq⟩ : ∃ q, n - (k + 1) + 1 = q := ⟨_, rfl⟩
      rw [hq] at hs e1
      have e2 : (q : Int) * f = ((q * f : Nat) : Int) := by push_cast; rfl
      obtain ⟨r, hr⟩ : ∃ r, q * f = r := ⟨_, rfl⟩
      rw [hr] at hs e2
      refine L_reg [0, 4, 5] (fun K hK => ?_)
      simp [okFn_low, wrap_i64 (a := (n : Int) - (k + 1)) (by omega), e1, wrap_i64 (a := (q : Int)) (by omega)]
      refine hd _ ?_
      simp [e2, wrap_i64 (a := (r : Int)) (by omega), wrap_i64 (a := (p1 : Int) + r) (by omega)]
      apply hK; clear hK K
      refine L_reg [0, 4, 5] (fun K hK => ?_)
      simp [wrap_i64 (a := (k : Int) + 1 + 1) (by omega)]
      apply hK; clear hK K
      exact ⟨n - (k + 1), [.int .i64 (p2 : Nat), .int .i64 (k + 1 + 1 : Nat)], by omega, by simp [hs], k + 1, rfl, by omega, by simp [hp2], rfl⟩
    · have : k = n := by omega
      subst this
      refine L_reg [2, 3] (fun K hK => ?_)
      simp
      apply hK; clear hK K
      exact L_ret ⟨.inr rfl, _, rfl, h⟩
  · rw [if_neg hc] at h
    refine L_true (by simp; omega) ?_
    refine L_reg [2, 3] (fun K hK => ?_)
    simp
    apply hK; clear hK K
    exact L_ret ⟨.inr rfl, _, rfl, h⟩
end Go.Proofs.Ytlghgbdelmiakaa

/- The examples: that each law ends with, and of the chapter. -/
namespace Go.Proofs.Ytlghgbdelmiakaa
open Go Go.Proofs.Ytlghgbdelmiakaa.AX

/-- What the calls of the package answer. -/
noncomputable def extB (f : FuncId) (args : List AV) (H : AH) : Option (AV × AH) := match args with
  | [.str w] => bif Nat.beq f 13 then some (evenV w, H) else bif Nat.beq f 15 then some (agV w, H) else bif Nat.beq f 19 then some (.int .i64 (chk w), H) else bif Nat.beq f 33 then some (strV w, H) else
      bif Nat.beq f 29 then (match gfind H 0 with | some [.int .i64 _] => some (turnsV w, H) | _ => none) else none
  | [.str w, .int .i64 s] => bif Nat.beq f 27 then some (turnV w s, H) else none
  | [.str a, .str b] => bif Nat.beq f 31 then (match gfind H 0 with | some [.int .i64 _] => some (sameV a b, H) | _ => none) else none
  | [.str w, .int .i64 a, .int .i64 b, .int .i64 c] => bif Nat.beq f 17 then some (.int .i64 (provS w a b c), H) else none
  | [.int .i64 n, .int .i64 k] => bif Nat.beq f 21 then some (makeV n k, H) else bif Nat.beq f 25 then some (splitV n k, H) else none
  | [.int .i64 n, .int .i64 k, .int .i64 j] => bif Nat.beq f 23 then some (placeV n k j, H) else none
  | [.int .i64 n] => bif Nat.beq f 35 then some (cntV n, H) else none
  | _ => none
theorem cond_some {α : Type} {b : Bool} {x y : Option α} {r : α} (h : (bif b then x else y) = some r) : (b = true ∧ x = some r) ∨ y = some r := by
  cases b with
  | true => exact .inl ⟨rfl, h⟩
  | false => exact .inr h
theorem extB_ok {f : FuncId} {args : List AV} {H : AH} {v : AV} {H' : AH} (h : extB f args H = some (v, H')) : AC Try.prog f args H fun v' H2 => v' = v ∧ H2 = H' := by
  unfold extB at h
  split at h
  · rename_i w
    rcases cond_some h with ⟨e, h⟩ | h
    · have := Nat.eq_of_beq_eq_true e; subst this; cases h; exact Even_ac _ _ _ ⟨rfl, rfl⟩
    rcases cond_some h with ⟨e, h⟩ | h
    · have := Nat.eq_of_beq_eq_true e; subst this; cases h; exact Against_ac _ _ _ ⟨rfl, rfl⟩
    rcases cond_some h with ⟨e, h⟩ | h
    · have := Nat.eq_of_beq_eq_true e; subst this; cases h; exact Check_ac _ _ _ ⟨rfl, rfl⟩
    rcases cond_some h with ⟨e, h⟩ | h
    · have := Nat.eq_of_beq_eq_true e; subst this; cases h; exact Straight_ac _ _ _ ⟨rfl, rfl⟩
    rcases cond_some h with ⟨e, h⟩ | h
    · have := Nat.eq_of_beq_eq_true e; subst this
      split at h
      · rename_i m hg; cases h; exact Turns_ac (m := m) _ _ hg _ ⟨rfl, rfl⟩
      · cases h
    · cases h
  · rename_i w s
    rcases cond_some h with ⟨e, h⟩ | h
    · have := Nat.eq_of_beq_eq_true e; subst this; cases h; exact Turn_ac _ _ _ _ ⟨rfl, rfl⟩
    · cases h
  · rename_i a b
    rcases cond_some h with ⟨e, h⟩ | h
    · have := Nat.eq_of_beq_eq_true e; subst this
      split at h
      · rename_i m hg; cases h; exact Same_ac (m := m) _ _ _ hg _ ⟨rfl, rfl⟩
      · cases h
    · cases h
  · rename_i w a b c
    rcases cond_some h with ⟨e, h⟩ | h
    · have := Nat.eq_of_beq_eq_true e; subst this; cases h; exact Proves_ac _ _ _ _ _ _ ⟨rfl, rfl⟩
    · cases h
  · rename_i n k
    rcases cond_some h with ⟨e, h⟩ | h
    · have := Nat.eq_of_beq_eq_true e; subst this; cases h; exact Make_ac _ _ _ _ ⟨rfl, rfl⟩
    rcases cond_some h with ⟨e, h⟩ | h
    · have := Nat.eq_of_beq_eq_true e; subst this; cases h; exact Split_ac _ _ _ _ ⟨rfl, rfl⟩
    · cases h
  · rename_i n k j
    rcases cond_some h with ⟨e, h⟩ | h
    · have := Nat.eq_of_beq_eq_true e; subst this; cases h; exact Place_ac _ _ _ _ _ ⟨rfl, rfl⟩
    · cases h
  · rename_i n
    rcases cond_some h with ⟨e, h⟩ | h
    · have := Nat.eq_of_beq_eq_true e; subst this; cases h; exact Count_ac _ _ _ ⟨rfl, rfl⟩
    · cases h
  · cases h
noncomputable def cxw : Cx Try.prog where
  good := goodT
  keep := keepT
  ext := extB
theorem cxw_ok : cxw.Ok where
  mixed := cx_ok.mixed
  ord f h := cx_ok.ord f h
  ext _f _args _H _v _H' h := extB_ok h
def gsM (m : Int) : List (Nat × List AV) := [(0, [.int .i64 m])]
theorem GM.has {m : Int} {H : AH} (h : GM m H) : HasG (gsM m) H := by
  intro x hx
  simp only [gsM, List.mem_singleton] at hx
  subst hx
  exact ⟨h, .cons (.int _ _) .nil⟩
set_option maxRecDepth 100000 in
theorem works_run (m : Int) : callN (runZ cxw 3000) 12 [] (gRows (gsM m)) = some (.bool true, gRows (gsM m)) := by kernel_rfl
theorem works_ac {m : Int} (H : AH) (hg : GM m H) (Q : AV → AH → Prop) (h : Q (.bool true) H) : AC Try.prog 12 [] H Q := AC_kernG cxw_ok 3000 (gsM m) hg.has (works_run m) .nil (.bool _) h
end Go.Proofs.Ytlghgbdelmiakaa

/- The laws' own functions: words of numbers, how far counts spread, even and straight. -/
namespace Go.Proofs.Ytlghgbdelmiakaa
open Go Go.Proofs.Ytlghgbdelmiakaa.AX

section
variable {P : Program} {t : TypeId} {l : Bool}
theorem n_and16 (x y : Nat) (hx : x < 65536) (hy : y < 65536) : binV P .and t l (.int .u16 (x : Int)) (.int .u16 (y : Int)) = some (.int .u16 ((x &&& y : Nat) : Int)) := by
  rw [b_and]
  have h1 : (BitVec.ofInt IntKind.u16.bits (x : Int) &&& BitVec.ofInt IntKind.u16.bits (y : Int)).toNat = x &&& y := by
    show (BitVec.ofInt 16 (x : Int) &&& BitVec.ofInt 16 (y : Int)).toNat = x &&& y
    rw [ofInt_nat, ofInt_nat, BitVec.toNat_and, BitVec.toNat_ofNat, BitVec.toNat_ofNat, Nat.mod_eq_of_lt hx, Nat.mod_eq_of_lt hy]
  have h2 : x &&& y < 65536 := Nat.and_lt_two_pow x (n := 16) hy
  rw [h1, show IntKind.u16.wrap ((x &&& y : Nat) : Int) = ((x &&& y : Nat) : Int) by
    unfold IntKind.wrap
    have e1 : (2 : Int) ^ IntKind.u16.bits = 65536 := by decide
    simp only [e1]
    rw [if_neg (by simp [IntKind.signed])]
    omega]
theorem bit16 (s b : Nat) (hs : s < 65536) : binV P .and t l (.int .u16 ((s >>> b : Nat) : Int)) (.int .u16 1) = some (.int .u16 (if s / 2 ^ b % 2 = 1 then 1 else 0)) := by
  have h1 : s >>> b < 65536 := Nat.lt_of_le_of_lt (by rw [Nat.shiftRight_eq_div_pow]; exact Nat.div_le_self _ _) hs
  have := n_and16 (P := P) (t := t) (l := l) (s >>> b) 1 h1 (by decide)
  rw [show ((1 : Nat) : Int) = 1 from rfl] at this
  rw [this, Nat.and_one_is_mod, Nat.shiftRight_eq_div_pow]
  rcases Nat.mod_two_eq_zero_or_one (s / 2 ^ b) with h | h <;> simp [h]
theorem bit16' (s b : Nat) (hs : s < 65536) : binV P .and t l (.int .u16 ((s : Int) >>> b)) (.int .u16 1) = some (.int .u16 (if s / 2 ^ b % 2 = 1 then 1 else 0)) := bit16 s b hs
end
theorem spell_take {n s c : Nat} (h : c < n) : (spell n s).take (c + 1) = (spell n s).take c ++ [if s / 2 ^ (n - 1 - c) % 2 = 1 then 98 else 97] := by
  rw [List.take_add_one]
  congr 1
  simp [spell, h]
theorem spelled_ac (n s : Nat) (hn : 1 ≤ n) (hn2 : n ≤ 16) (hs : s < 65536) (H : AH) (Q : AV → AH → Prop) (h : Q (.str (spell n s)) H) : AC Try.prog 37 [.int .i64 n, .int .u16 s] H Q := by
  refine L_body 22 Try.func37 rfl rfl ?_
  refine L_reg [0, 1] (fun K hK => ?_)
  simp
  apply hK; clear hK K
  refine L_reg [0, 1, 5] (fun K hK => ?_)
  simp
  apply hK; clear hK K
  refine L_reg [1, 5, 6] (fun K hK => ?_)
  simp [wrap_i64 (a := (n : Int) - 1) (by omega)]
  apply hK; clear hK K
  refine L_block (L_loopV [5, 6] (fun m vs H' => ∃ c : Nat, m = n - c ∧ c ≤ n ∧ vs = [.str ((spell n s).take c), .int .i64 ((n : Int) - 1 - c)] ∧ H = H') _ [.str [], .int .i64 ((n : Int) - 1)] rfl ⟨0, rfl, by omega, by simp, rfl⟩ ?_)
  rintro m _ _ ⟨c, rfl, hc, rfl, rfl⟩
  refine L_reg [1, 5, 6, 10] (fun K hK => ?_)
  simp
  apply hK; clear hK K
  refine L_dec ((0 : Int) ≤ (n : Int) - 1 - c) (by simp) (fun hlt => ?_) (fun hge => L_exit ?_)
  · refine L_block ?_
    have e1 : (n : Int) - 1 - c = ((n - 1 - c : Nat) : Int) := by omega
    have hsh := n_shr (P := Try.prog) (t := 45) (l := false) (k := .u16) (k' := .i64) s (n - 1 - c) (by show n - 1 - c ≤ 16; omega)
    have hsh' : ∀ l, binV Try.prog .shr 45 l (.int .u16 (s : Int)) (.int .i64 ((n - 1 - c : Nat) : Int)) = some (.int .u16 ((s : Int) >>> (n - 1 - c))) := fun l => n_shr' (k := .u16) (k' := .i64) s (n - 1 - c) (by show n - 1 - c ≤ 16; omega)
    have hb : ∀ l, binV Try.prog .and 45 l (.int .u16 ((s : Int) >>> (n - 1 - c))) (.int .u16 1) = _ := fun l => bit16' s (n - 1 - c) hs
    have htk := spell_take (n := n) (s := s) (c := c) (by omega)
    have hl : ((spell n s).take c).length ≤ 16 := by simp [spell_len]; omega
    generalize (spell n s).take c = W at *
    obtain ⟨W2, hW2⟩ : ∃ x, (spell n s).take (c + 1) = x := ⟨_, rfl⟩
    rw [hW2] at htk
    have hadd : ∀ l x, binV Try.prog .add 9 l (.str W) (.str [x]) = some (.str (W ++ [x])) := fun l x => b_addS (by simp; omega)
    rw [e1]
    by_cases hbit : s / 2 ^ (n - 1 - c) % 2 = 1
    · rw [if_pos hbit] at htk
      simp only [hbit, if_true] at hb
      have s1 : ∀ k, aSlice Try.prog 9 (.str [97, 98]) (some (.int k 1)) none none = some (.str [98]) := fun k => slFrom9 (s := [97, 98]) (a := 1) (by decide) k
      have s2 : ∀ k, aSlice Try.prog 9 (.str [98]) none (some (.int k 1)) none = some (.str [98]) := fun k => slTo9 (s := [98]) (b := 1) (by decide) k
      refine L_reg [1, 5, 6] (fun K hK => ?_)
      simp [hsh', hb, s1, s2, hadd]
      apply hK; clear hK K
      refine L_reg [1, 5, 6] (fun K hK => ?_)
      simp [wrap_i64 (a := ((n - 1 - c : Nat) : Int) - 1) (by omega)]
      apply hK; clear hK K
      exact ⟨n - (c + 1), [.str W2, .int .i64 ((n : Int) - 1 - (c + 1 : Nat))], by omega, by simp [htk]; omega, c + 1, rfl, by omega, by rw [hW2], rfl⟩
    · rw [if_neg hbit] at htk
      simp only [hbit, if_false] at hb
      have s1 : ∀ k, aSlice Try.prog 9 (.str [97, 98]) (some (.int k 0)) none none = some (.str [97, 98]) := fun k => slFrom9 (s := [97, 98]) (a := 0) (by decide) k
      have s2 : ∀ k, aSlice Try.prog 9 (.str [97, 98]) none (some (.int k 1)) none = some (.str [97]) := fun k => slTo9 (s := [97, 98]) (b := 1) (by decide) k
      refine L_reg [1, 5, 6] (fun K hK => ?_)
      simp [hsh', hb, s1, s2, hadd]
      apply hK; clear hK K
      refine L_reg [1, 5, 6] (fun K hK => ?_)
      simp [wrap_i64 (a := ((n - 1 - c : Nat) : Int) - 1) (by omega)]
      apply hK; clear hK K
      exact ⟨n - (c + 1), [.str W2, .int .i64 ((n : Int) - 1 - (c + 1 : Nat))], by omega, by simp [htk]; omega, c + 1, rfl, by omega, by rw [hW2], rfl⟩
  · have : c = n := by omega
    subst this
    rw [List.take_of_length_le (by rw [spell_len]; omega)]
    refine L_reg [4] (fun K hK => ?_)
    simp
    apply hK; clear hK K
    exact L_ret ⟨.inr rfl, _, rfl, h⟩
theorem divL_ac (a b : Nat) (ha : a ≤ 1000000) (hb : b ≤ 1000000) (H : AH) (Q : AV → AH → Prop) (h : Q (.int .i64 (Nat.gcd a b)) H) : AC Try.prog 40 [.int .i64 a, .int .i64 b] H Q := by
  refine L_body 12 Try.func40 rfl rfl ?_
  refine L_reg [0, 1] (fun K hK => ?_)
  simp
  apply hK; clear hK K
  refine L_block (L_loopV [0, 1] (fun n vs H' => ∃ x y : Nat, n = y ∧ Nat.gcd x y = Nat.gcd a b ∧ x ≤ 1000000 ∧ y ≤ 1000000 ∧ vs = [.int .i64 x, .int .i64 y] ∧ H = H') _ [.int .i64 a, .int .i64 b] rfl ⟨a, b, rfl, rfl, ha, hb, rfl, rfl⟩ ?_)
  rintro n _ _ ⟨x, y, rfl, hg, hx, hy, rfl, rfl⟩
  refine L_reg [0, 1, 6] (fun K hK => ?_)
  simp
  apply hK; clear hK K
  refine L_dec (0 < n) (by simp) (fun hlt => ?_) (fun hge => L_exit ?_)
  · refine L_block ?_
    have hn0 : n ≠ 0 := by omega
    have t1 := tmod_nat x n
    have hlt2 := Nat.mod_lt x hlt
    have hg2 : Nat.gcd n (x % n) = Nat.gcd a b := by rw [← hg, Nat.gcd_comm x n, Nat.gcd_rec n x, Nat.gcd_comm]
    generalize x % n = z at *
    refine L_regT mixed [0, 1] (by kernel_rfl) (fun K hK => ?_)
    simp [hn0, t1]
    apply hK; clear hK K
    exact ⟨z, [.int .i64 n, .int .i64 z], by omega, by simp, n, z, rfl, hg2, by omega, by omega, rfl, rfl⟩
  · have : n = 0 := by omega
    subst this
    rw [Nat.gcd_zero_right] at hg
    refine L_reg [4] (fun K hK => ?_)
    simp
    apply hK; clear hK K
    exact L_ret ⟨.inr rfl, _, rfl, by rw [hg]; exact h⟩
theorem spread_ac (w : List UInt8) (len M : Nat) (h0 : 1 ≤ w.length) (hl : w.length ≤ 1000) (hlen : len ≤ w.length) (hM : 1 ≤ M) (hM2 : M ≤ w.length) (H : AH) (Q : AV → AH → Prop) (h : ∀ x : Int, -1000 ≤ x ∧ x ≤ 1000 → ((1 < x) = ¬ clA (bb w len) M = none) → Q (.int .i64 x) H) : AC Try.prog 65 [.str w, .int .i64 len, .int .i64 M] H Q := by
  refine L_body 38 Try.func65 rfl rfl ?_
  refine L_reg [0, 1, 2] (fun K hK => ?_)
  simp
  apply hK; clear hK K
  refine L_reg [0, 1, 2, 7, 8] (fun K hK => ?_)
  simp
  apply hK; clear hK K
  have ha : ∀ l, binV Try.prog .add 9 l (.str w) (.str w) = some (.str (w ++ w)) := fun l => b_addS (by omega)
  refine L_reg [1, 2, 7, 8, 9] (fun K hK => ?_)
  simp [ha]
  apply hK; clear hK K
  refine L_reg [1, 7, 8, 9, 17, 18] (fun K hK => ?_)
  simp
  apply hK; clear hK K
  refine L_block (L_loopV [7, 8, 18] (fun n vs H' => ∃ i lo hi : Nat, n = M - i ∧ i ≤ M ∧ vs = [.int .i64 lo, .int .i64 hi, .int .i64 i] ∧ H = H' ∧ lo ≤ w.length ∧ hi ≤ w.length ∧ (∀ a, a < i → bb w len a ≤ hi ∧ lo ≤ bb w len a) ∧ (1 ≤ i → ∃ a c, a < i ∧ c < i ∧ bb w len a = hi ∧ bb w len c = lo) ∧ (i = 0 → lo = w.length ∧ hi = 0)) _ [.int .i64 w.length, .int .i64 0, .int .i64 0] rfl ⟨0, w.length, 0, rfl, by omega, rfl, rfl, by omega, by omega, fun a ha => by omega, by omega, fun _ => ⟨rfl, rfl⟩⟩ ?_)
  rintro n _ _ ⟨i, lo, hi, rfl, hi1, rfl, rfl, hb1, hb2, hall, hex, hz⟩
  refine L_reg [1, 7, 8, 9, 17, 18, 19] (fun K hK => ?_)
  simp
  apply hK; clear hK K
  refine L_dec (i < M) (by simp) (fun hlt => ?_) (fun hge => L_exit ?_)
  · refine L_block ?_
    refine L_reg [1, 7, 8, 9, 10, 17, 18] (fun K hK => ?_)
    simp
    apply hK; clear hK K
    have hsl := sl9 (s := w ++ w) (a := i) (b := i + len) (by omega) (by simp; omega) .i64 .i64
    rw [show i + len - i = len by omega, show ((i + len : Nat) : Int) = (i : Int) + len by omega] at hsl
    have hble := bb_le (w := w) (i := i) (len := len)
    refine L_reg [1, 7, 8, 9, 11, 17, 18] (fun K hK => ?_)
    simp [okFn_low, hsl, wrap_i64 (a := (i : Int) + len) (by omega)]
    refine CountB_ac _ _ _ _ ?_
    simp
    apply hK; clear hK K
    rw [show List.count 98 (((w ++ w).drop i).take len) = bb w len i from rfl]
    have hx : ∀ a, a < i + 1 → a < i ∨ a = i := fun a ha => by omega
    generalize hX : bb w len i = x at *
    refine L_reg [1, 7, 8, 9, 17, 18] (fun K hK => ?_)
    simp
    apply hK; clear hK K
    refine L_reg [1, 7, 8, 9, 17, 18] (fun K hK => ?_)
    simp [wrap_i64 (a := (i : Int) + 1) (by omega)]
    apply hK; clear hK K
    refine ⟨M - (i + 1), [.int .i64 (min lo x : Nat), .int .i64 (max hi x : Nat), .int .i64 (i + 1 : Nat)], by omega, ?_, i + 1, min lo x, max hi x, rfl, by omega, rfl, rfl, by omega, by omega, fun a ha => ?_, fun _ => ?_, by omega⟩
    · have emin : ((min lo x : Nat) : Int) = min (lo : Int) (x : Int) := by omega
      have emax : ((max hi x : Nat) : Int) = max (hi : Int) (x : Int) := by omega
      simp [emin, emax]
    · rcases hx a ha with h3 | rfl
      · have := hall a h3; omega
      · rw [hX]; omega
    · by_cases hi0 : i = 0
      · obtain ⟨h3, h4⟩ := hz hi0
        exact ⟨i, i, by omega, by omega, by omega, by omega⟩
      · obtain ⟨a, c, h3, h4, h5, h6⟩ := hex (by omega)
        rcases Nat.le_total hi x with g1 | g1
        · rcases Nat.le_total x lo with g2 | g2
          · exact ⟨i, i, by omega, by omega, by omega, by omega⟩
          · exact ⟨i, c, by omega, by omega, by omega, by omega⟩
        · rcases Nat.le_total x lo with g2 | g2
          · exact ⟨a, i, by omega, by omega, by omega, by omega⟩
          · exact ⟨a, c, by omega, by omega, by omega, by omega⟩
  · have hiM : i = M := by omega
    subst hiM
    obtain ⟨a, c, h3, h4, h5, h6⟩ := hex (by omega)
    have hiff : ((1 : Int) < (hi : Int) - lo) = ¬ clA (bb w len) i = none := by
      rw [eq_iff_iff]
      constructor
      · intro h7 h8
        have := clA_none.1 h8 a c h3 h4
        rw [pr_false] at this; omega
      · intro h7
        rcases Int.lt_or_le 1 ((hi : Int) - lo) with h8 | h8
        · exact h8
        · refine absurd (clA_none.2 fun a' c' ha' hc' => ?_) h7
          have g1 := hall a' ha'
          have g2 := hall c' hc'
          rw [pr_false]; omega
    refine L_reg [6] (fun K hK => ?_)
    simp [wrap_i64 (a := (hi : Int) - lo) (by omega)]
    apply hK; clear hK K
    exact L_ret ⟨.inr rfl, _, rfl, h _ (by omega) hiff⟩
theorem evenL_ac (w : List UInt8) (h0 : 1 ≤ w.length) (hl : w.length ≤ 1000) (H : AH) (Q : AV → AH → Prop) (h : Q (.bool (evenB w)) H) : AC Try.prog 38 [.str w] H Q := by
  refine L_body 16 Try.func38 rfl rfl ?_
  refine L_reg [0] (fun K hK => ?_)
  simp
  apply hK; clear hK K
  refine L_reg [0, 3] (fun K hK => ?_)
  simp
  apply hK; clear hK K
  refine L_block (L_loopK [0, 3] [3] (fun n vs H' => ∃ len : Nat, n = w.length - len ∧ 1 ≤ len ∧ len ≤ w.length ∧ vs = [.int .i64 len] ∧ H = H' ∧ ∀ l, 1 ≤ l → l < len → clA (bb w l) (most w false l) = none) _ [.int .i64 1] rfl rfl ⟨1, rfl, by omega, by omega, rfl, rfl, fun l _ hl => by omega⟩ ?_)
  rintro n _ _ ⟨len, rfl, h1, hle, rfl, rfl, hno⟩
  refine L_reg [0, 3, 7] (fun K hK => ?_)
  simp
  apply hK; clear hK K
  refine L_dec (len < w.length) (by simp) (fun hlt => ?_) (fun hge => L_exit ?_)
  · refine L_block ?_
    refine L_reg [0, 3, 15] (fun K hK => ?_)
    simp [okFn_low]
    refine spread_ac w len w.length h0 hl (by omega) h0 (by omega) _ _ (fun x hx hiff => ?_)
    simp
    apply hK; clear hK K
    refine L_dec (1 < x) (by simp) (fun hp => ?_) (fun hp => ?_)
    · have hW : evenB w = false := by
        cases hs : evenB w with
        | false => rfl
        | true => exact absurd (clW_none.1 (Option.isNone_iff_eq_none.1 hs) len h1 (by omega)) (hiff ▸ hp)
      refine L_reg [2] (fun K hK => ?_)
      simp
      apply hK; clear hK K
      exact L_ret ⟨.inr rfl, _, rfl, by rw [hW] at h; exact h⟩
    · have hn : clA (bb w len) w.length = none := Decidable.byContradiction fun hh => hp (hiff ▸ hh)
      refine L_reg [0, 3] (fun K hK => ?_)
      simp [wrap_i64 (a := (len : Int) + 1) (by omega)]
      apply hK; clear hK K
      refine ⟨w.length - (len + 1), [.int .i64 (len + 1 : Nat)], by omega, by simp, len + 1, rfl, by omega, by omega, rfl, rfl, fun l g1 g2 => ?_⟩
      by_cases e : l = len
      · subst e; exact hn
      · exact hno l g1 (by omega)
  · have hW : evenB w = true := by
      unfold evenB
      rw [Option.isNone_iff_eq_none, clW_none]
      intro l g1 g2
      by_cases e : l = w.length
      · subst e; exact clA_full w false (by omega)
      · exact hno l g1 (by omega)
    refine L_reg [2] (fun K hK => ?_)
    simp
    apply hK; clear hK K
    exact L_ret ⟨.inr rfl, _, rfl, by rw [hW] at h; exact h⟩
end Go.Proofs.Ytlghgbdelmiakaa

/- The laws that ask for what is stated: walks. -/
namespace Go.Proofs.Ytlghgbdelmiakaa
open Go Go.Proofs.Ytlghgbdelmiakaa.AX

end Go.Proofs.Ytlghgbdelmiakaa

/- What proves a word uneven, and what does not: the walk. -/
namespace Go.Proofs.Ytlghgbdelmiakaa
open Go Go.Proofs.Ytlghgbdelmiakaa.AX

/-- What has been found so far: the first three numbers, or none. -/
def Fnd (o : Option (Nat × Nat × Nat)) (x y z : Int) : Prop := match o with | some (a, c, len) => x = a ∧ y = c ∧ z = len | none => x = -1 ∧ y = 0 ∧ z = 0
/-- The search has come to length len, letters a and c. -/
structure Far (w : List UInt8) (o : Option (Nat × Nat × Nat)) (len a c : Nat) : Prop where
  fs : ∀ x, o = some x → clW w false = some x
  fn : o = none → (∀ l, 1 ≤ l → l < len → clA (bb w l) w.length = none) ∧ (∀ a' c', a' < a → c' < w.length → pr (bb w len) a' c' = false) ∧ ∀ c', c' < c → pr (bb w len) a c' = false
theorem Far.next {w : List UInt8} {o : Option (Nat × Nat × Nat)} {len a c : Nat} (h : Far w o len a c) (hp : pr (bb w len) a c = false) : Far w o len a (c + 1) :=
  ⟨h.fs, fun ho => ⟨(h.fn ho).1, (h.fn ho).2.1, fun c' hc => by
    by_cases e : c' = c
    · subst e; exact hp
    · exact (h.fn ho).2.2 c' (by omega)⟩⟩
theorem Far.row {w : List UInt8} {o : Option (Nat × Nat × Nat)} {len a : Nat} (h : Far w o len a w.length) : Far w o len (a + 1) 0 :=
  ⟨h.fs, fun ho => ⟨(h.fn ho).1, fun a' c' ha hc => by
    by_cases e : a' = a
    · subst e; exact (h.fn ho).2.2 c' hc
    · exact (h.fn ho).2.1 a' c' (by omega) hc, fun c' hc => by omega⟩⟩
theorem Far.len {w : List UInt8} {o : Option (Nat × Nat × Nat)} {len : Nat} (h : Far w o len w.length 0) : Far w o (len + 1) 0 0 :=
  ⟨h.fs, fun ho => ⟨fun l g1 g2 => by
    by_cases e : l = len
    · subst e; exact clA_none.2 fun a c ha hc => (h.fn ho).2.1 a c ha hc
    · exact (h.fn ho).1 l g1 (by omega), fun a' c' h => by omega, fun c' h => by omega⟩⟩
theorem Far.done {w : List UInt8} {o : Option (Nat × Nat × Nat)} (h : Far w o (w.length + 1) 0 0) : clW w false = o := by
  cases o with
  | some x => exact h.fs x rfl
  | none => exact clW_none.2 fun l g1 g2 => (h.fn rfl).1 l g1 (by omega)
theorem neqB4 (l : Bool) (x y : Bool) : binV Try.prog .neq 4 l (.bool x) (.bool y) = some (.bool !(x == y)) := b_neqB Try.underlying4 x y
theorem u8_of {a : Int} (w : (Lit.int .u8 a).wf = true) : ∃ n : Nat, a = n ∧ n < 256 := by
  have h : IntKind.u8.min ≤ a ∧ a ≤ IntKind.u8.max := by simpa [Lit.wf] using w
  have h1 : IntKind.u8.min = 0 := rfl
  have h2 : IntKind.u8.max = 255 := rfl
  exact ⟨a.toNat, by omega, by omega⟩
end Go.Proofs.Ytlghgbdelmiakaa

/- Even words are made of two others: all of them, tried. -/
namespace Go.Proofs.Ytlghgbdelmiakaa
open Go

def qS (w : List UInt8) (j : Nat) : Nat := if j = 0 then 0 else nthB w (j - 1) + 1
def spJ (n k : Nat) (w : List UInt8) (j : Nat) : Bool :=
  decide (Lib.index (w.drop (qS w j)) [98] = ((nthB w j - qS w j : Nat) : Int)) && Nat.ble (qS w j) (nthB w j) && Nat.ble ((j + 1) * n) ((nthB w j + 1) * k) && Nat.blt (nthB w j * k) ((j + 1) * n) && Nat.blt (nthB w j) n
def spM (n k : Nat) (w : List UInt8) : Bool :=
  if n = 1 ∨ 1 < Nat.gcd n k then (splitS n k).isNone else match splitS n k with
    | none => false
    | some m => Nat.ble 1 m && Nat.blt m n && Nat.ble (bnd (w.take m)) m && Nat.ble (bnd (w.take m)) k && Nat.ble (k - bnd (w.take m)) (n - m) && (madeS m (bnd (w.take m)) ++ madeS (n - m) (k - bnd (w.take m)) == w) && Nat.beq (m * (k - bnd (w.take m))) ((n - m) * bnd (w.take m) + 1)
def spT (n k : Nat) : Bool := (List.range k).all (spJ n k (madeS n k)) && spM n k (madeS n k)
structure SpJ (n k : Nat) (w : List UInt8) (j : Nat) : Prop where
  ix : Lib.index (w.drop (qS w j)) [98] = ((nthB w j - qS w j : Nat) : Int)
  le : qS w j ≤ nthB w j
  lo : (j + 1) * n ≤ (nthB w j + 1) * k
  hi : nthB w j * k < (j + 1) * n
  lt : nthB w j < n
end Go.Proofs.Ytlghgbdelmiakaa

/- Even words are made of two others, where Split says: the walk. -/
namespace Go.Proofs.Ytlghgbdelmiakaa
open Go Go.Proofs.Ytlghgbdelmiakaa.AX

theorem bdE_in {n k : Nat} (h1 : 1 ≤ n) (h2 : n ≤ 16) (h3 : k ≤ n) : bdE (n : Int) (k : Int) = 0 := by
  unfold bdE
  rw [if_pos (by omega)]
theorem makeV_in {n k : Nat} (h1 : 1 ≤ n) (h2 : n ≤ 16) (h3 : k ≤ n) : makeV (n : Int) (k : Int) = .tuple [.str (madeS n k), .int .i64 0] := by
  unfold makeV
  rw [if_pos (bdE_in h1 h2 h3)]
  rfl
end Go.Proofs.Ytlghgbdelmiakaa

/- As many words are straight as are counted: the walk. -/
namespace Go.Proofs.Ytlghgbdelmiakaa
open Go Go.Proofs.Ytlghgbdelmiakaa.AX

theorem wrap_u16 {a : Int} (h : 0 ≤ a ∧ a < 65536) : IntKind.u16.wrap a = a := by
  unfold IntKind.wrap
  have e1 : (2 : Int) ^ IntKind.u16.bits = 65536 := by decide
  simp only [e1]
  rw [if_neg (by simp [IntKind.signed])]
  omega
theorem n_shl16 {P : Program} {t : TypeId} {l : Bool} {k' : IntKind} (b : Nat) (hb : b < 16) : binV P .shl t l (.int .u16 1) (.int k' (b : Int)) = some (.int .u16 ((2 ^ b : Nat) : Int)) := by
  rw [b_shl (Int.natCast_nonneg b)]
  have : b ≤ IntKind.u16.bits := Nat.le_of_lt hb
  have e : ((2 : Int) ^ b) = ((2 ^ b : Nat) : Int) := by simp
  have h2 : 2 ^ b < 2 ^ 16 := Nat.pow_lt_pow_right (by decide) hb
  rw [Int.toNat_natCast, Nat.min_eq_left this, Int.one_mul, e]
  generalize 2 ^ b = p at *
  rw [wrap_u16 (by omega)]
/-- How many of the words of the first numbers are straight. -/
def nStr (n s : Nat) : Nat := ((List.range s).filter fun t => strB (spell n t)).length
end Go.Proofs.Ytlghgbdelmiakaa

/- All even words of at most ten letters: tables. -/
namespace Go.Proofs.Ytlghgbdelmiakaa
open Go Go.Proofs.Ytlghgbdelmiakaa.AX

/-- A quicker test. -/
def fev (w : List UInt8) : Bool := (List.range' 1 w.length).all fun len => near1 ((List.range w.length).map (bb w len))
theorem fev_eq (w : List UInt8) : fev w = evenB w := by
  rw [Bool.eq_iff_iff]
  unfold fev evenB
  rw [Option.isNone_iff_eq_none, clW_none, List.all_eq_true]
  constructor
  · intro h len h1 h2
    rw [clA_none]
    intro a c ha hc
    simp only [most, Bool.false_eq_true, if_false] at ha hc
    rw [pr_false]
    exact near1_iff.1 (h len (List.mem_range'_1.2 ⟨h1, by omega⟩)) _ (List.mem_map.2 ⟨a, List.mem_range.2 ha, rfl⟩) _ (List.mem_map.2 ⟨c, List.mem_range.2 hc, rfl⟩)
  · intro h len hl
    rw [List.mem_range'_1] at hl
    rw [near1_iff]
    intro x hx y hy
    obtain ⟨a, ha, rfl⟩ := List.mem_map.1 hx
    obtain ⟨c, hc, rfl⟩ := List.mem_map.1 hy
    rw [List.mem_range] at ha hc
    exact pr_false.1 (clA_none.1 (h len hl.1 (by omega)) a c (by simpa [most] using ha) (by simpa [most] using hc))
/-- The sets of the even words. -/
def evs : Nat → List Nat
  | 1 => [0, 1]
  | 2 => [0, 1, 2, 3]
  | 3 => [0, 1, 2, 3, 4, 5, 6, 7]
  | 4 => [0, 1, 2, 4, 5, 7, 8, 10, 11, 13, 14, 15]
  | 5 => [0, 1, 2, 4, 5, 8, 9, 10, 11, 13, 15, 16, 18, 20, 21, 22, 23, 26, 27, 29, 30, 31]
  | 6 => [0, 1, 2, 4, 8, 9, 16, 18, 21, 27, 31, 32, 36, 42, 45, 47, 54, 55, 59, 61, 62, 63]
  | 7 => [0, 1, 2, 4, 8, 9, 16, 17, 18, 21, 32, 34, 36, 37, 41, 42, 43, 45, 53, 55, 59, 63, 64, 68, 72, 74, 82, 84, 85, 86, 90, 91, 93, 95, 106, 109, 110, 111, 118, 119, 123, 125, 126, 127]
  | 8 => [0, 1, 2, 4, 8, 16, 17, 32, 34, 37, 41, 64, 68, 73, 74, 82, 85, 91, 107, 109, 119, 127, 128, 136, 146, 148, 164, 170, 173, 181, 182, 187, 191, 214, 218, 221, 223, 238, 239, 247, 251, 253, 254, 255]
  | 9 => [0, 1, 2, 4, 8, 16, 17, 32, 33, 34, 64, 66, 68, 73, 85, 128, 132, 136, 146, 149, 165, 169, 170, 171, 173, 181, 213, 219, 239, 247, 255, 256, 264, 272, 292, 298, 330, 338, 340, 341, 342, 346, 362, 365, 375, 379, 383, 426, 438, 443, 445, 447, 477, 478, 479, 494, 495, 503, 507, 509, 510, 511]
  | 10 => [0, 1, 2, 4, 8, 16, 32, 33, 64, 66, 73, 128, 132, 137, 145, 146, 165, 256, 264, 274, 290, 292, 297, 330, 341, 363, 429, 439, 443, 475, 495, 511, 512, 528, 548, 580, 584, 594, 660, 682, 693, 726, 731, 733, 749, 759, 767, 858, 877, 878, 886, 891, 895, 950, 957, 959, 990, 991, 1007, 1015, 1019, 1021, 1022, 1023]
  | _ => []
def isI (r : Option (AV × AH)) (x : Nat) : Bool := match r with | some (.int .i64 (.ofNat y), []) => Nat.beq x y | _ => false
theorem isI_eq {r : Option (AV × AH)} {x : Nat} (h : isI r x = true) : r = some (.int .i64 (x : Int), []) := by
  unfold isI at h
  split at h
  · rename_i y
    rw [Nat.eq_of_beq_eq_true h]; rfl
  · cases h
def evA (n : Nat) : Bool := (allS n).filter (fun s => fev (spell n s)) == evs n
def evB (n : Nat) : Bool := (evs n).all fun s => (sameS (madeS n (bnd (spell n s))) (spell n s) 0).isSome && (Nat.blt 0 ((evs n).filter fun t => Nat.blt t s && Nat.beq (bnd (spell n t)) (bnd (spell n s))).length || spell n s == madeS n (bnd (spell n s)))
def evC (n : Nat) : Bool := (List.range (n + 1)).all fun k => Nat.beq ((evs n).filter fun t => Nat.beq (bnd (spell n t)) k).length (n / Nat.gcd n k) && decide (turnI (madeS n k) (madeS n k) 1 = ((n / Nat.gcd n k : Nat) : Int))
set_option maxRecDepth 100000 in
theorem evA_tab : ((List.range 11).all fun n => Nat.beq n 0 || evA n) = true := by decide +kernel
set_option maxRecDepth 100000 in
theorem evB_tab : ((List.range 11).all fun n => Nat.beq n 0 || evB n) = true := by decide +kernel
set_option maxRecDepth 100000 in
theorem evC_tab : ((List.range 11).all fun n => Nat.beq n 0 || evC n) = true := by decide +kernel
set_option maxRecDepth 100000 in
theorem evD_tab : ((List.range 11).all fun n => (evs n).all fun s => isI (callN (runZ cx 300) 39 [.int .u16 (.ofNat s)] []) (bnd (spell n s))) = true := by kernel_rfl
theorem of_tab {f : Nat → Bool} (h : ((List.range 11).all fun n => Nat.beq n 0 || f n) = true) {n : Nat} (h1 : 1 ≤ n) (h2 : n ≤ 10) : f n = true := by
  have h := List.all_eq_true.1 h n (List.mem_range.2 (by omega))
  have : Nat.beq n 0 = false := by
    cases h3 : Nat.beq n 0 with
    | false => rfl
    | true => have := Nat.eq_of_beq_eq_true h3; omega
  rwa [this, Bool.false_or] at h
/-- How many even words with so many letters b there are among the first. -/
def cntK (n k s : Nat) : Nat := ((List.range s).filter fun t => evenB (spell n t) && Nat.beq (bnd (spell n t)) k).length
def fstK (n k s : Nat) : List UInt8 := if cntK n k s = 0 then [] else madeS n k
theorem cntK_zero (n k : Nat) : cntK n k 0 = 0 := rfl
theorem cntK_succ (n k s : Nat) : cntK n k (s + 1) = cntK n k s + if evenB (spell n s) && Nat.beq (bnd (spell n s)) k then 1 else 0 := by
  unfold cntK
  rw [List.range_succ, List.filter_append, List.length_append]
  cases h : (evenB (spell n s) && Nat.beq (bnd (spell n s)) k) <;> simp [h]
theorem cntK_le (n k s : Nat) : cntK n k s ≤ s := Nat.le_trans (List.length_filter_le _ _) (by simp)
theorem range_lt (s : Nat) : ∀ d, (List.range (s + d)).filter (fun t => Nat.blt t s) = List.range s
  | 0 => List.filter_eq_self.2 fun t ht => by rw [Nat.blt_eq]; exact List.mem_range.1 ht
  | d + 1 => by
    rw [← Nat.add_assoc, List.range_succ, List.filter_append, range_lt s d]
    have : Nat.blt (s + d) s = false := by
      cases h : Nat.blt (s + d) s with
      | false => rfl
      | true => rw [Nat.blt_eq] at h; omega
    simp [this]
section
variable {n : Nat} (h1 : 1 ≤ n) (h2 : n ≤ 10)
include h1 h2
theorem evs_eq : (List.range (2 ^ n)).filter (fun s => evenB (spell n s)) = evs n := by
  rw [evens_eq]
  have := of_tab evA_tab h1 h2
  simp only [evA, beq_iff_eq, fev_eq] at this
  exact this
theorem ev_mem {s : Nat} (hs : s < 2 ^ n) (he : evenB (spell n s) = true) : s ∈ evs n := by
  rw [← evs_eq h1 h2]
  exact List.mem_filter.2 ⟨List.mem_range.2 hs, he⟩
theorem cntK_eq {k s : Nat} (hs : s ≤ 2 ^ n) : cntK n k s = ((evs n).filter fun t => Nat.blt t s && Nat.beq (bnd (spell n t)) k).length := by
  unfold cntK
  rw [← evs_eq h1 h2, List.filter_filter]
  have hr := range_lt s (2 ^ n - s)
  rw [Nat.add_sub_cancel' hs] at hr
  rw [← hr, List.filter_filter]
  congr 2
  funext t
  cases evenB (spell n t) <;> cases Nat.blt t s <;> cases Nat.beq (bnd (spell n t)) k <;> rfl
theorem cntK_full {k : Nat} (hk : k ≤ n) : cntK n k (2 ^ n) = n / Nat.gcd n k := by
  have h := of_tab evC_tab h1 h2
  simp only [evC] at h
  have := (List.all_eq_true.1 h k (List.mem_range.2 (by omega)))
  simp only [Bool.and_eq_true] at this
  rw [← Nat.eq_of_beq_eq_true this.1]
  unfold cntK
  rw [← evs_eq h1 h2, List.filter_filter]
  congr 2
  funext t
  exact Bool.and_comm _ _
theorem ev_turns {k : Nat} (hk : k ≤ n) : turnI (madeS n k) (madeS n k) 1 = ((n / Nat.gcd n k : Nat) : Int) := by
  have h := of_tab evC_tab h1 h2
  simp only [evC] at h
  have := (List.all_eq_true.1 h k (List.mem_range.2 (by omega)))
  simp only [Bool.and_eq_true, decide_eq_true_eq] at this
  exact this.2
theorem ev_same {s : Nat} (hs : s < 2 ^ n) (he : evenB (spell n s) = true) : ∃ i, sameS (madeS n (bnd (spell n s))) (spell n s) 0 = some i := by
  have h := of_tab evB_tab h1 h2
  have := List.all_eq_true.1 h s (ev_mem h1 h2 hs he)
  simp only [Bool.and_eq_true] at this
  exact Option.isSome_iff_exists.1 this.1
theorem ev_first {s : Nat} (hs : s < 2 ^ n) (he : evenB (spell n s) = true) (h0 : cntK n (bnd (spell n s)) s = 0) : spell n s = madeS n (bnd (spell n s)) := by
  have h := of_tab evB_tab h1 h2
  have := List.all_eq_true.1 h s (ev_mem h1 h2 hs he)
  simp only [Bool.and_eq_true, Bool.or_eq_true, beq_iff_eq] at this
  rcases this.2 with h3 | h3
  · rw [← cntK_eq h1 h2 (by omega), h0] at h3; cases h3
  · exact h3
theorem ones_ac {s : Nat} (hs : s < 2 ^ n) (he : evenB (spell n s) = true) (H : AH) (Q : AV → AH → Prop) (h : Q (.int .i64 (bnd (spell n s))) H) : AC Try.prog 39 [.int .u16 (s : Int)] H Q := by
  have h3 := List.all_eq_true.1 evD_tab n (List.mem_range.2 (by omega))
  exact AC_kernZ cx_ok 300 (isI_eq (List.all_eq_true.1 h3 s (ev_mem h1 h2 hs he))) (.cons (.int _ _) .nil) (.int _ _) h
end
theorem sameS_turn {a b : List UInt8} {s i : Nat} (h : sameS a b s = some i) : i < a.length ∧ turnS a i = b := by
  unfold sameS at h
  obtain ⟨j, hj, h3⟩ := List.exists_of_findSome?_eq_some h
  rw [List.mem_range'_1] at hj
  split at h3
  · cases h3; exact ⟨by omega, by assumption⟩
  · cases h3
end Go.Proofs.Ytlghgbdelmiakaa
