/- What the steps ask of the types of this program. -/
import Derived.Test.YtfbpgnjeafadmaaBase
import Derived.Test.YtfbpgnjeafadmaaAxR
namespace Go.Proofs.Ytfbpgnjeafadmaa
open Go Go.Proofs.Ytfbpgnjeafadmaa.AX
@[simp] theorem ld3 (H : AH) (r off ver : Nat) : loadV Try.prog 3 H (.ptr r off ver) = ld H r off ver := ld_sc (by kernel_rfl) ..
theorem sc3 : scal Try.prog 3 = true := by kernel_rfl
theorem zt3 : zeroT Try.prog 3 = some [.int .i64 0] := by kernel_rfl
@[simp] theorem ld4 (H : AH) (r off ver : Nat) : loadV Try.prog 4 H (.ptr r off ver) = ld H r off ver := ld_sc (by kernel_rfl) ..
theorem sc4 : scal Try.prog 4 = true := by kernel_rfl
theorem zt4 : zeroT Try.prog 4 = some [.bool false] := by kernel_rfl
@[simp] theorem ld5 (H : AH) (r off ver : Nat) : loadV Try.prog 5 H (.ptr r off ver) = ld H r off ver := ld_sc (by kernel_rfl) ..
theorem sc5 : scal Try.prog 5 = true := by kernel_rfl
theorem zt5 : zeroT Try.prog 5 = some [.int .u8 0] := by kernel_rfl
@[simp] theorem ld22 (H : AH) (r off ver : Nat) : loadV Try.prog 22 H (.ptr r off ver) = ld H r off ver := ld_sc (by kernel_rfl) ..
theorem sc22 : scal Try.prog 22 = true := by kernel_rfl
theorem slz22 : slSz Try.prog 22 = some 1 := by kernel_rfl
@[simp] theorem len22 (r : Option Nat) (off len ver sz : Nat) (full : Bool) : aLen Try.prog 22 (.slice r off len ver sz full) = some (.int .i64 len) := len_sl slz22 ..
@[simp] theorem lenp22 (r off len ver sz : Nat) : aLen Try.prog 22 (.part r off len ver sz) = some (.int .i64 len) := len_part slz22 ..
@[simp] theorem ixa22 (r off len ver : Nat) (full : Bool) (k : IntKind) (i : Int) : aIndexAddr Try.prog 22 (.slice (some r) off len ver 1 full) (.int k i) = if 0 ≤ i ∧ i < len then some (.ptr r (off + i.toNat * 1) ver) else none := ixa_sl slz22 ..
@[simp] theorem ixap22 (r off len ver : Nat) (k : IntKind) (i : Int) : aIndexAddr Try.prog 22 (.part r off len ver 1) (.int k i) = if 0 ≤ i ∧ i < len then some (.ptr r (off + i.toNat * 1) ver) else none := ixa_part slz22 ..
theorem el22 : elT Try.prog 22 = true := by kernel_rfl
theorem elz22 : elZ Try.prog 22 = some (.int .i64 0) := by kernel_rfl
@[simp] theorem row22 (H : AH) (b : Int) : rowV Try.prog 22 1 [(0, .int .i64 b)] H = some (some (.slice (some H.length) 0 1 0 1 false), H ++ [.row [.int .i64 b] 0 1 false]) := row1 el22 rfl rfl
theorem zt22 : zeroT Try.prog 22 = some [.slice none 0 0 0 1 false] := by kernel_rfl
theorem ag24 : aggSz Try.prog 24 = some 4 := by kernel_rfl
@[simp] theorem ld24 (H : AH) (r off ver : Nat) : loadV Try.prog 24 H (.ptr r off ver) = (ldn H r ver 4 off).map .agg := load_agg ag24 ..
@[simp] theorem fa24_0 (r off ver : Nat) : aFieldAddr Try.prog 24 (.ptr r off ver) 0 = some (.ptr r (off + 0) ver) := fld_ptr (by kernel_rfl) ..
@[simp] theorem fa24_1 (r off ver : Nat) : aFieldAddr Try.prog 24 (.ptr r off ver) 1 = some (.ptr r (off + 1) ver) := fld_ptr (by kernel_rfl) ..
@[simp] theorem fa24_2 (r off ver : Nat) : aFieldAddr Try.prog 24 (.ptr r off ver) 2 = some (.ptr r (off + 2) ver) := fld_ptr (by kernel_rfl) ..
@[simp] theorem fa24_3 (r off ver : Nat) : aFieldAddr Try.prog 24 (.ptr r off ver) 3 = some (.ptr r (off + 3) ver) := fld_ptr (by kernel_rfl) ..
theorem zt24 : zeroT Try.prog 24 = some [.int .i64 0, .int .i64 0, .slice none 0 0 0 1 false, .slice none 0 0 0 1 false] := by kernel_rfl
theorem ag27 : aggSz Try.prog 27 = some 4 := by kernel_rfl
@[simp] theorem ld27 (H : AH) (r off ver : Nat) : loadV Try.prog 27 H (.ptr r off ver) = (ldn H r ver 4 off).map .agg := load_agg ag27 ..
@[simp] theorem fa27_0 (r off ver : Nat) : aFieldAddr Try.prog 27 (.ptr r off ver) 0 = some (.ptr r (off + 0) ver) := fld_ptr (by kernel_rfl) ..
@[simp] theorem fa27_1 (r off ver : Nat) : aFieldAddr Try.prog 27 (.ptr r off ver) 1 = some (.ptr r (off + 1) ver) := fld_ptr (by kernel_rfl) ..
@[simp] theorem fa27_2 (r off ver : Nat) : aFieldAddr Try.prog 27 (.ptr r off ver) 2 = some (.ptr r (off + 2) ver) := fld_ptr (by kernel_rfl) ..
@[simp] theorem fa27_3 (r off ver : Nat) : aFieldAddr Try.prog 27 (.ptr r off ver) 3 = some (.ptr r (off + 3) ver) := fld_ptr (by kernel_rfl) ..
theorem zt27 : zeroT Try.prog 27 = some [.int .i64 0, .int .i64 0, .slice none 0 0 0 1 false, .slice none 0 0 0 1 false] := by kernel_rfl
@[simp] theorem ld38 (H : AH) (r off ver : Nat) : loadV Try.prog 38 H (.ptr r off ver) = ld H r off ver := ld_sc (by kernel_rfl) ..
theorem sc38 : scal Try.prog 38 = true := by kernel_rfl
theorem slz38 : slSz Try.prog 38 = some 4 := by kernel_rfl
@[simp] theorem len38 (r : Option Nat) (off len ver sz : Nat) (full : Bool) : aLen Try.prog 38 (.slice r off len ver sz full) = some (.int .i64 len) := len_sl slz38 ..
@[simp] theorem lenp38 (r off len ver sz : Nat) : aLen Try.prog 38 (.part r off len ver sz) = some (.int .i64 len) := len_part slz38 ..
@[simp] theorem ixa38 (r off len ver : Nat) (full : Bool) (k : IntKind) (i : Int) : aIndexAddr Try.prog 38 (.slice (some r) off len ver 4 full) (.int k i) = if 0 ≤ i ∧ i < len then some (.ptr r (off + i.toNat * 4) ver) else none := ixa_sl slz38 ..
@[simp] theorem ixap38 (r off len ver : Nat) (k : IntKind) (i : Int) : aIndexAddr Try.prog 38 (.part r off len ver 4) (.int k i) = if 0 ≤ i ∧ i < len then some (.ptr r (off + i.toNat * 4) ver) else none := ixa_part slz38 ..
theorem zt38 : zeroT Try.prog 38 = some [.slice none 0 0 0 1 false] := by kernel_rfl
@[simp] theorem ld53 (H : AH) (r off ver : Nat) : loadV Try.prog 53 H (.ptr r off ver) = ld H r off ver := ld_sc (by kernel_rfl) ..
theorem sc53 : scal Try.prog 53 = true := by kernel_rfl
theorem zt53 : zeroT Try.prog 53 = some [.int .u32 0] := by kernel_rfl
theorem ag55 : aggSz Try.prog 55 = some 4 := by kernel_rfl
@[simp] theorem ld55 (H : AH) (r off ver : Nat) : loadV Try.prog 55 H (.ptr r off ver) = (ldn H r ver 4 off).map .agg := load_agg ag55 ..
@[simp] theorem fa55_0 (r off ver : Nat) : aFieldAddr Try.prog 55 (.ptr r off ver) 0 = some (.ptr r (off + 0) ver) := fld_ptr (by kernel_rfl) ..
@[simp] theorem fa55_1 (r off ver : Nat) : aFieldAddr Try.prog 55 (.ptr r off ver) 1 = some (.ptr r (off + 1) ver) := fld_ptr (by kernel_rfl) ..
@[simp] theorem fa55_2 (r off ver : Nat) : aFieldAddr Try.prog 55 (.ptr r off ver) 2 = some (.ptr r (off + 2) ver) := fld_ptr (by kernel_rfl) ..
@[simp] theorem fa55_3 (r off ver : Nat) : aFieldAddr Try.prog 55 (.ptr r off ver) 3 = some (.ptr r (off + 3) ver) := fld_ptr (by kernel_rfl) ..
@[simp] theorem built55 (x0 x1 x2 x3 : Int) : aBuilt Try.prog 55 [(0, .int .u8 x0), (1, .int .u8 x1), (2, .int .u32 x2), (3, .int .u32 x3)] = some [.int .u8 x0, .int .u8 x1, .int .u32 x2, .int .u32 x3] := by kernel_rfl
theorem zt55 : zeroT Try.prog 55 = some [.int .u8 0, .int .u8 0, .int .u32 0, .int .u32 0] := by kernel_rfl
theorem ag57 : aggSz Try.prog 57 = some 2 := by kernel_rfl
@[simp] theorem ld57 (H : AH) (r off ver : Nat) : loadV Try.prog 57 H (.ptr r off ver) = (ldn H r ver 2 off).map .agg := load_agg ag57 ..
@[simp] theorem fa57_0 (r off ver : Nat) : aFieldAddr Try.prog 57 (.ptr r off ver) 0 = some (.ptr r (off + 0) ver) := fld_ptr (by kernel_rfl) ..
@[simp] theorem fa57_1 (r off ver : Nat) : aFieldAddr Try.prog 57 (.ptr r off ver) 1 = some (.ptr r (off + 1) ver) := fld_ptr (by kernel_rfl) ..
@[simp] theorem built57 (x0 x1 : Int) : aBuilt Try.prog 57 [(0, .int .i64 x0), (1, .int .i64 x1)] = some [.int .i64 x0, .int .i64 x1] := by kernel_rfl
theorem zt57 : zeroT Try.prog 57 = some [.int .i64 0, .int .i64 0] := by kernel_rfl
theorem ar67 : arSz Try.prog 67 = some (4, 1) := by kernel_rfl
@[simp] theorem ixa67 (r off ver : Nat) (k : IntKind) (i : Int) : aIndexAddr Try.prog 67 (.ptr r off ver) (.int k i) = if 0 ≤ i ∧ i < (4 : Nat) then some (.ptr r (off + i.toNat * 1) ver) else none := ixa_ar ar67 ..
theorem ag67 : aggSz Try.prog 67 = some 4 := by kernel_rfl
@[simp] theorem ld67 (H : AH) (r off ver : Nat) : loadV Try.prog 67 H (.ptr r off ver) = (ldn H r ver 4 off).map .agg := load_agg ag67 ..
theorem zt67 : zeroT Try.prog 67 = some [.int .i64 0, .int .i64 0, .int .i64 0, .int .i64 0] := by kernel_rfl
@[simp] theorem ld71 (H : AH) (r off ver : Nat) : loadV Try.prog 71 H (.ptr r off ver) = ld H r off ver := ld_sc (by kernel_rfl) ..
theorem sc71 : scal Try.prog 71 = true := by kernel_rfl
theorem slz71 : slSz Try.prog 71 = some 4 := by kernel_rfl
@[simp] theorem len71 (r : Option Nat) (off len ver sz : Nat) (full : Bool) : aLen Try.prog 71 (.slice r off len ver sz full) = some (.int .i64 len) := len_sl slz71 ..
@[simp] theorem lenp71 (r off len ver sz : Nat) : aLen Try.prog 71 (.part r off len ver sz) = some (.int .i64 len) := len_part slz71 ..
@[simp] theorem ixa71 (r off len ver : Nat) (full : Bool) (k : IntKind) (i : Int) : aIndexAddr Try.prog 71 (.slice (some r) off len ver 4 full) (.int k i) = if 0 ≤ i ∧ i < len then some (.ptr r (off + i.toNat * 4) ver) else none := ixa_sl slz71 ..
@[simp] theorem ixap71 (r off len ver : Nat) (k : IntKind) (i : Int) : aIndexAddr Try.prog 71 (.part r off len ver 4) (.int k i) = if 0 ≤ i ∧ i < len then some (.ptr r (off + i.toNat * 4) ver) else none := ixa_part slz71 ..
theorem zt71 : zeroT Try.prog 71 = some [.slice none 0 0 0 1 false] := by kernel_rfl
theorem ag77 : aggSz Try.prog 77 = some 2 := by kernel_rfl
@[simp] theorem ld77 (H : AH) (r off ver : Nat) : loadV Try.prog 77 H (.ptr r off ver) = (ldn H r ver 2 off).map .agg := load_agg ag77 ..
@[simp] theorem fa77_0 (r off ver : Nat) : aFieldAddr Try.prog 77 (.ptr r off ver) 0 = some (.ptr r (off + 0) ver) := fld_ptr (by kernel_rfl) ..
@[simp] theorem fa77_1 (r off ver : Nat) : aFieldAddr Try.prog 77 (.ptr r off ver) 1 = some (.ptr r (off + 1) ver) := fld_ptr (by kernel_rfl) ..
@[simp] theorem built77 (x0 x1 : Int) : aBuilt Try.prog 77 [(0, .int .i64 x0), (1, .int .i64 x1)] = some [.int .i64 x0, .int .i64 x1] := by kernel_rfl
theorem zt77 : zeroT Try.prog 77 = some [.int .i64 0, .int .i64 0] := by kernel_rfl
theorem ar79 : arSz Try.prog 79 = some (25, 1) := by kernel_rfl
@[simp] theorem ixa79 (r off ver : Nat) (k : IntKind) (i : Int) : aIndexAddr Try.prog 79 (.ptr r off ver) (.int k i) = if 0 ≤ i ∧ i < (25 : Nat) then some (.ptr r (off + i.toNat * 1) ver) else none := ixa_ar ar79 ..
theorem ag79 : aggSz Try.prog 79 = some 25 := by kernel_rfl
@[simp] theorem ld79 (H : AH) (r off ver : Nat) : loadV Try.prog 79 H (.ptr r off ver) = (ldn H r ver 25 off).map .agg := load_agg ag79 ..
theorem zt79 : zeroT Try.prog 79 = some [.bool false, .bool false, .bool false, .bool false, .bool false, .bool false, .bool false, .bool false, .bool false, .bool false, .bool false, .bool false, .bool false, .bool false, .bool false, .bool false, .bool false, .bool false, .bool false, .bool false, .bool false, .bool false, .bool false, .bool false, .bool false] := by kernel_rfl
theorem ag81 : aggSz Try.prog 81 = some 52 := by kernel_rfl
@[simp] theorem ld81 (H : AH) (r off ver : Nat) : loadV Try.prog 81 H (.ptr r off ver) = (ldn H r ver 52 off).map .agg := load_agg ag81 ..
@[simp] theorem fa81_0 (r off ver : Nat) : aFieldAddr Try.prog 81 (.ptr r off ver) 0 = some (.ptr r (off + 0) ver) := fld_ptr (by kernel_rfl) ..
@[simp] theorem fa81_1 (r off ver : Nat) : aFieldAddr Try.prog 81 (.ptr r off ver) 1 = some (.ptr r (off + 2) ver) := fld_ptr (by kernel_rfl) ..
@[simp] theorem fa81_2 (r off ver : Nat) : aFieldAddr Try.prog 81 (.ptr r off ver) 2 = some (.ptr r (off + 27) ver) := fld_ptr (by kernel_rfl) ..
theorem zt81 : zeroT Try.prog 81 = some [.int .i64 0, .int .i64 0, .bool false, .bool false, .bool false, .bool false, .bool false, .bool false, .bool false, .bool false, .bool false, .bool false, .bool false, .bool false, .bool false, .bool false, .bool false, .bool false, .bool false, .bool false, .bool false, .bool false, .bool false, .bool false, .bool false, .bool false, .bool false, .bool false, .bool false, .bool false, .bool false, .bool false, .bool false, .bool false, .bool false, .bool false, .bool false, .bool false, .bool false, .bool false, .bool false, .bool false, .bool false, .bool false, .bool false, .bool false, .bool false, .bool false, .bool false, .bool false, .bool false, .bool false] := by kernel_rfl
theorem ar87 : arSz Try.prog 87 = some (25, 1) := by kernel_rfl
@[simp] theorem ixa87 (r off ver : Nat) (k : IntKind) (i : Int) : aIndexAddr Try.prog 87 (.ptr r off ver) (.int k i) = if 0 ≤ i ∧ i < (25 : Nat) then some (.ptr r (off + i.toNat * 1) ver) else none := ixa_ar ar87 ..
theorem ag87 : aggSz Try.prog 87 = some 25 := by kernel_rfl
@[simp] theorem ld87 (H : AH) (r off ver : Nat) : loadV Try.prog 87 H (.ptr r off ver) = (ldn H r ver 25 off).map .agg := load_agg ag87 ..
theorem zt87 : zeroT Try.prog 87 = some [.int .i64 0, .int .i64 0, .int .i64 0, .int .i64 0, .int .i64 0, .int .i64 0, .int .i64 0, .int .i64 0, .int .i64 0, .int .i64 0, .int .i64 0, .int .i64 0, .int .i64 0, .int .i64 0, .int .i64 0, .int .i64 0, .int .i64 0, .int .i64 0, .int .i64 0, .int .i64 0, .int .i64 0, .int .i64 0, .int .i64 0, .int .i64 0, .int .i64 0] := by kernel_rfl
@[simp] theorem ld97 (H : AH) (r off ver : Nat) : loadV Try.prog 97 H (.ptr r off ver) = ld H r off ver := ld_sc (by kernel_rfl) ..
theorem sc97 : scal Try.prog 97 = true := by kernel_rfl
theorem zt97 : zeroT Try.prog 97 = some [.nilfunc] := by kernel_rfl
theorem ar111 : arSz Try.prog 111 = some (2, 1) := by kernel_rfl
@[simp] theorem ixa111 (r off ver : Nat) (k : IntKind) (i : Int) : aIndexAddr Try.prog 111 (.ptr r off ver) (.int k i) = if 0 ≤ i ∧ i < (2 : Nat) then some (.ptr r (off + i.toNat * 1) ver) else none := ixa_ar ar111 ..
theorem ag111 : aggSz Try.prog 111 = some 2 := by kernel_rfl
@[simp] theorem ld111 (H : AH) (r off ver : Nat) : loadV Try.prog 111 H (.ptr r off ver) = (ldn H r ver 2 off).map .agg := load_agg ag111 ..
theorem zt111 : zeroT Try.prog 111 = some [.int .i64 0, .int .i64 0] := by kernel_rfl
@[simp] theorem ld112 (H : AH) (r off ver : Nat) : loadV Try.prog 112 H (.ptr r off ver) = ld H r off ver := ld_sc (by kernel_rfl) ..
theorem sc112 : scal Try.prog 112 = true := by kernel_rfl
theorem slz112 : slSz Try.prog 112 = some 2 := by kernel_rfl
@[simp] theorem len112 (r : Option Nat) (off len ver sz : Nat) (full : Bool) : aLen Try.prog 112 (.slice r off len ver sz full) = some (.int .i64 len) := len_sl slz112 ..
@[simp] theorem lenp112 (r off len ver sz : Nat) : aLen Try.prog 112 (.part r off len ver sz) = some (.int .i64 len) := len_part slz112 ..
@[simp] theorem ixa112 (r off len ver : Nat) (full : Bool) (k : IntKind) (i : Int) : aIndexAddr Try.prog 112 (.slice (some r) off len ver 2 full) (.int k i) = if 0 ≤ i ∧ i < len then some (.ptr r (off + i.toNat * 2) ver) else none := ixa_sl slz112 ..
@[simp] theorem ixap112 (r off len ver : Nat) (k : IntKind) (i : Int) : aIndexAddr Try.prog 112 (.part r off len ver 2) (.int k i) = if 0 ≤ i ∧ i < len then some (.ptr r (off + i.toNat * 2) ver) else none := ixa_part slz112 ..
theorem zt112 : zeroT Try.prog 112 = some [.slice none 0 0 0 1 false] := by kernel_rfl
@[simp] theorem ld118 (H : AH) (r off ver : Nat) : loadV Try.prog 118 H (.ptr r off ver) = ld H r off ver := ld_sc (by kernel_rfl) ..
theorem sc118 : scal Try.prog 118 = true := by kernel_rfl
theorem zt118 : zeroT Try.prog 118 = some [.int .u64 0] := by kernel_rfl
@[simp] theorem ld123 (H : AH) (r off ver : Nat) : loadV Try.prog 123 H (.ptr r off ver) = ld H r off ver := ld_sc (by kernel_rfl) ..
theorem sc123 : scal Try.prog 123 = true := by kernel_rfl
theorem zt123 : zeroT Try.prog 123 = some [.int .u64 0] := by kernel_rfl
@[simp] theorem cv3_118 (k : IntKind) (n : Int) : aConv Try.prog 3 118 (.int k n) = some (.int .u64 (IntKind.u64.wrap n)) := cv_int (by kernel_rfl) (by kernel_rfl) n
@[simp] theorem cv5_3 (k : IntKind) (n : Int) : aConv Try.prog 5 3 (.int k n) = some (.int .i64 (IntKind.i64.wrap n)) := cv_int (by kernel_rfl) (by kernel_rfl) n
@[simp] theorem cv53_3 (k : IntKind) (n : Int) : aConv Try.prog 53 3 (.int k n) = some (.int .i64 (IntKind.i64.wrap n)) := cv_int (by kernel_rfl) (by kernel_rfl) n
@[simp] theorem cv53_118 (k : IntKind) (n : Int) : aConv Try.prog 53 118 (.int k n) = some (.int .u64 (IntKind.u64.wrap n)) := cv_int (by kernel_rfl) (by kernel_rfl) n
@[simp] theorem cv53_123 (k : IntKind) (n : Int) : aConv Try.prog 53 123 (.int k n) = some (.int .u64 (IntKind.u64.wrap n)) := cv_int (by kernel_rfl) (by kernel_rfl) n
@[simp] theorem cv118_3 (k : IntKind) (n : Int) : aConv Try.prog 118 3 (.int k n) = some (.int .i64 (IntKind.i64.wrap n)) := cv_int (by kernel_rfl) (by kernel_rfl) n
@[simp] theorem cv118_53 (k : IntKind) (n : Int) : aConv Try.prog 118 53 (.int k n) = some (.int .u32 (IntKind.u32.wrap n)) := cv_int (by kernel_rfl) (by kernel_rfl) n
@[simp] theorem cv123_53 (k : IntKind) (n : Int) : aConv Try.prog 123 53 (.int k n) = some (.int .u32 (IntKind.u32.wrap n)) := cv_int (by kernel_rfl) (by kernel_rfl) n
end Go.Proofs.Ytfbpgnjeafadmaa
