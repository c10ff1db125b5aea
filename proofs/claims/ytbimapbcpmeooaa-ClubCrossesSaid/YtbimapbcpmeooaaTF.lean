/- What the steps ask of the types of this program. -/
import Derived.Test.YtbimapbcpmeooaaBase
import Derived.Test.YtbimapbcpmeooaaAxR
namespace Go.Proofs.Ytbimapbcpmeooaa
open Go Go.Proofs.Ytbimapbcpmeooaa.AX
@[simp] theorem ld3 (H : AH) (r off ver : Nat) : loadV Try.prog 3 H (.ptr r off ver) = ld H r off ver := ld_sc (by kernel_rfl) ..
theorem sc3 : scal Try.prog 3 = true := by kernel_rfl
theorem zt3 : zeroT Try.prog 3 = some [.int .i64 0] := by kernel_rfl
@[simp] theorem ld4 (H : AH) (r off ver : Nat) : loadV Try.prog 4 H (.ptr r off ver) = ld H r off ver := ld_sc (by kernel_rfl) ..
theorem sc4 : scal Try.prog 4 = true := by kernel_rfl
theorem zt4 : zeroT Try.prog 4 = some [.bool false] := by kernel_rfl
@[simp] theorem ld5 (H : AH) (r off ver : Nat) : loadV Try.prog 5 H (.ptr r off ver) = ld H r off ver := ld_sc (by kernel_rfl) ..
theorem sc5 : scal Try.prog 5 = true := by kernel_rfl
theorem zt5 : zeroT Try.prog 5 = some [.int .u8 0] := by kernel_rfl
@[simp] theorem ld9 (H : AH) (r off ver : Nat) : loadV Try.prog 9 H (.ptr r off ver) = ld H r off ver := ld_sc (by kernel_rfl) ..
theorem sc9 : scal Try.prog 9 = true := by kernel_rfl
theorem zt9 : zeroT Try.prog 9 = some [.str []] := by kernel_rfl
@[simp] theorem ld22 (H : AH) (r off ver : Nat) : loadV Try.prog 22 H (.ptr r off ver) = ld H r off ver := ld_sc (by kernel_rfl) ..
theorem sc22 : scal Try.prog 22 = true := by kernel_rfl
theorem slz22 : slSz Try.prog 22 = some 1 := by kernel_rfl
@[simp] theorem len22 (r : Option Nat) (off len ver sz : Nat) (full : Bool) : aLen Try.prog 22 (.slice r off len ver sz full) = some (.int .i64 len) := len_sl slz22 ..
@[simp] theorem lenp22 (r off len ver sz : Nat) : aLen Try.prog 22 (.part r off len ver sz) = some (.int .i64 len) := len_part slz22 ..
@[simp] theorem ixa22 (r off len ver : Nat) (full : Bool) (k : IntKind) (i : Int) : aIndexAddr Try.prog 22 (.slice (some r) off len ver 1 full) (.int k i) = if 0 ≤ i ∧ i < len then some (.ptr r (off + i.toNat * 1) ver) else none := ixa_sl slz22 ..
@[simp] theorem ixap22 (r off len ver : Nat) (k : IntKind) (i : Int) : aIndexAddr Try.prog 22 (.part r off len ver 1) (.int k i) = if 0 ≤ i ∧ i < len then some (.ptr r (off + i.toNat * 1) ver) else none := ixa_part slz22 ..
theorem el22 : elT Try.prog 22 = true := by kernel_rfl
theorem elz22 : elZ Try.prog 22 = some (.int .i64 0) := by kernel_rfl
@[simp] theorem row22 (H : AH) (b : Int) : rowV Try.prog 22 1 [(0, .int .i64 b)] H = some (some (.slice (some H.length) 0 1 0 1 false), H ++ [.row [.int .i64 b] 0 1 false]) := row1 el22 rfl rfl
theorem zt22 : zeroT Try.prog 22 = some [.slice none 0 0 0 1 false] := by kernel_rfl
@[simp] theorem ld24 (H : AH) (r off ver : Nat) : loadV Try.prog 24 H (.ptr r off ver) = ld H r off ver := ld_sc (by kernel_rfl) ..
theorem sc24 : scal Try.prog 24 = true := by kernel_rfl
theorem zt24 : zeroT Try.prog 24 = some [.int .i64 0] := by kernel_rfl
@[simp] theorem ld32 (H : AH) (r off ver : Nat) : loadV Try.prog 32 H (.ptr r off ver) = ld H r off ver := ld_sc (by kernel_rfl) ..
theorem sc32 : scal Try.prog 32 = true := by kernel_rfl
theorem slz32 : slSz Try.prog 32 = some 2 := by kernel_rfl
@[simp] theorem len32 (r : Option Nat) (off len ver sz : Nat) (full : Bool) : aLen Try.prog 32 (.slice r off len ver sz full) = some (.int .i64 len) := len_sl slz32 ..
@[simp] theorem lenp32 (r off len ver sz : Nat) : aLen Try.prog 32 (.part r off len ver sz) = some (.int .i64 len) := len_part slz32 ..
@[simp] theorem ixa32 (r off len ver : Nat) (full : Bool) (k : IntKind) (i : Int) : aIndexAddr Try.prog 32 (.slice (some r) off len ver 2 full) (.int k i) = if 0 ≤ i ∧ i < len then some (.ptr r (off + i.toNat * 2) ver) else none := ixa_sl slz32 ..
@[simp] theorem ixap32 (r off len ver : Nat) (k : IntKind) (i : Int) : aIndexAddr Try.prog 32 (.part r off len ver 2) (.int k i) = if 0 ≤ i ∧ i < len then some (.ptr r (off + i.toNat * 2) ver) else none := ixa_part slz32 ..
theorem zt32 : zeroT Try.prog 32 = some [.slice none 0 0 0 1 false] := by kernel_rfl
theorem ag34 : aggSz Try.prog 34 = some 2 := by kernel_rfl
@[simp] theorem ld34 (H : AH) (r off ver : Nat) : loadV Try.prog 34 H (.ptr r off ver) = (ldn H r ver 2 off).map .agg := load_agg ag34 ..
@[simp] theorem fa34_0 (r off ver : Nat) : aFieldAddr Try.prog 34 (.ptr r off ver) 0 = some (.ptr r (off + 0) ver) := fld_ptr (by kernel_rfl) ..
@[simp] theorem fa34_1 (r off ver : Nat) : aFieldAddr Try.prog 34 (.ptr r off ver) 1 = some (.ptr r (off + 1) ver) := fld_ptr (by kernel_rfl) ..
theorem zt34 : zeroT Try.prog 34 = some [.int .i64 0, .slice none 0 0 0 1 false] := by kernel_rfl
theorem ag37 : aggSz Try.prog 37 = some 2 := by kernel_rfl
@[simp] theorem ld37 (H : AH) (r off ver : Nat) : loadV Try.prog 37 H (.ptr r off ver) = (ldn H r ver 2 off).map .agg := load_agg ag37 ..
@[simp] theorem fa37_0 (r off ver : Nat) : aFieldAddr Try.prog 37 (.ptr r off ver) 0 = some (.ptr r (off + 0) ver) := fld_ptr (by kernel_rfl) ..
@[simp] theorem fa37_1 (r off ver : Nat) : aFieldAddr Try.prog 37 (.ptr r off ver) 1 = some (.ptr r (off + 1) ver) := fld_ptr (by kernel_rfl) ..
theorem zt37 : zeroT Try.prog 37 = some [.int .i64 0, .slice none 0 0 0 1 false] := by kernel_rfl
@[simp] theorem ld56 (H : AH) (r off ver : Nat) : loadV Try.prog 56 H (.ptr r off ver) = ld H r off ver := ld_sc (by kernel_rfl) ..
theorem sc56 : scal Try.prog 56 = true := by kernel_rfl
theorem zt56 : zeroT Try.prog 56 = some [.nilmap] := by kernel_rfl
@[simp] theorem ld57 (H : AH) (r off ver : Nat) : loadV Try.prog 57 H (.ptr r off ver) = ld H r off ver := ld_sc (by kernel_rfl) ..
theorem sc57 : scal Try.prog 57 = true := by kernel_rfl
theorem zt57 : zeroT Try.prog 57 = some [.int .u32 0] := by kernel_rfl
theorem ar58 : arSz Try.prog 58 = some (5, 1) := by kernel_rfl
@[simp] theorem ixa58 (r off ver : Nat) (k : IntKind) (i : Int) : aIndexAddr Try.prog 58 (.ptr r off ver) (.int k i) = if 0 ≤ i ∧ i < (5 : Nat) then some (.ptr r (off + i.toNat * 1) ver) else none := ixa_ar ar58 ..
theorem ag58 : aggSz Try.prog 58 = some 5 := by kernel_rfl
@[simp] theorem ld58 (H : AH) (r off ver : Nat) : loadV Try.prog 58 H (.ptr r off ver) = (ldn H r ver 5 off).map .agg := load_agg ag58 ..
theorem zt58 : zeroT Try.prog 58 = some [.int .i64 0, .int .i64 0, .int .i64 0, .int .i64 0, .int .i64 0] := by kernel_rfl
theorem ag64 : aggSz Try.prog 64 = some 2 := by kernel_rfl
@[simp] theorem ld64 (H : AH) (r off ver : Nat) : loadV Try.prog 64 H (.ptr r off ver) = (ldn H r ver 2 off).map .agg := load_agg ag64 ..
@[simp] theorem fa64_0 (r off ver : Nat) : aFieldAddr Try.prog 64 (.ptr r off ver) 0 = some (.ptr r (off + 0) ver) := fld_ptr (by kernel_rfl) ..
@[simp] theorem fa64_1 (r off ver : Nat) : aFieldAddr Try.prog 64 (.ptr r off ver) 1 = some (.ptr r (off + 1) ver) := fld_ptr (by kernel_rfl) ..
@[simp] theorem built64 (x0 x1 : Int) : aBuilt Try.prog 64 [(0, .int .u8 x0), (1, .int .u32 x1)] = some [.int .u8 x0, .int .u32 x1] := by kernel_rfl
theorem zt64 : zeroT Try.prog 64 = some [.int .u8 0, .int .u32 0] := by kernel_rfl
theorem ar67 : arSz Try.prog 67 = some (2, 1) := by kernel_rfl
@[simp] theorem ixa67 (r off ver : Nat) (k : IntKind) (i : Int) : aIndexAddr Try.prog 67 (.ptr r off ver) (.int k i) = if 0 ≤ i ∧ i < (2 : Nat) then some (.ptr r (off + i.toNat * 1) ver) else none := ixa_ar ar67 ..
theorem ag67 : aggSz Try.prog 67 = some 2 := by kernel_rfl
@[simp] theorem ld67 (H : AH) (r off ver : Nat) : loadV Try.prog 67 H (.ptr r off ver) = (ldn H r ver 2 off).map .agg := load_agg ag67 ..
theorem zt67 : zeroT Try.prog 67 = some [.int .i64 0, .int .i64 0] := by kernel_rfl
@[simp] theorem ld69 (H : AH) (r off ver : Nat) : loadV Try.prog 69 H (.ptr r off ver) = ld H r off ver := ld_sc (by kernel_rfl) ..
theorem sc69 : scal Try.prog 69 = true := by kernel_rfl
theorem zt69 : zeroT Try.prog 69 = some [.nilfunc] := by kernel_rfl
@[simp] theorem ld73 (H : AH) (r off ver : Nat) : loadV Try.prog 73 H (.ptr r off ver) = ld H r off ver := ld_sc (by kernel_rfl) ..
theorem sc73 : scal Try.prog 73 = true := by kernel_rfl
theorem zt73 : zeroT Try.prog 73 = some [.nilmap] := by kernel_rfl
@[simp] theorem ld74 (H : AH) (r off ver : Nat) : loadV Try.prog 74 H (.ptr r off ver) = ld H r off ver := ld_sc (by kernel_rfl) ..
theorem sc74 : scal Try.prog 74 = true := by kernel_rfl
theorem slz74 : slSz Try.prog 74 = some 2 := by kernel_rfl
@[simp] theorem len74 (r : Option Nat) (off len ver sz : Nat) (full : Bool) : aLen Try.prog 74 (.slice r off len ver sz full) = some (.int .i64 len) := len_sl slz74 ..
@[simp] theorem lenp74 (r off len ver sz : Nat) : aLen Try.prog 74 (.part r off len ver sz) = some (.int .i64 len) := len_part slz74 ..
@[simp] theorem ixa74 (r off len ver : Nat) (full : Bool) (k : IntKind) (i : Int) : aIndexAddr Try.prog 74 (.slice (some r) off len ver 2 full) (.int k i) = if 0 ≤ i ∧ i < len then some (.ptr r (off + i.toNat * 2) ver) else none := ixa_sl slz74 ..
@[simp] theorem ixap74 (r off len ver : Nat) (k : IntKind) (i : Int) : aIndexAddr Try.prog 74 (.part r off len ver 2) (.int k i) = if 0 ≤ i ∧ i < len then some (.ptr r (off + i.toNat * 2) ver) else none := ixa_part slz74 ..
theorem zt74 : zeroT Try.prog 74 = some [.slice none 0 0 0 1 false] := by kernel_rfl
@[simp] theorem ld75 (H : AH) (r off ver : Nat) : loadV Try.prog 75 H (.ptr r off ver) = ld H r off ver := ld_sc (by kernel_rfl) ..
theorem sc75 : scal Try.prog 75 = true := by kernel_rfl
theorem slz75 : slSz Try.prog 75 = some 1 := by kernel_rfl
@[simp] theorem len75 (r : Option Nat) (off len ver sz : Nat) (full : Bool) : aLen Try.prog 75 (.slice r off len ver sz full) = some (.int .i64 len) := len_sl slz75 ..
@[simp] theorem lenp75 (r off len ver sz : Nat) : aLen Try.prog 75 (.part r off len ver sz) = some (.int .i64 len) := len_part slz75 ..
@[simp] theorem ixa75 (r off len ver : Nat) (full : Bool) (k : IntKind) (i : Int) : aIndexAddr Try.prog 75 (.slice (some r) off len ver 1 full) (.int k i) = if 0 ≤ i ∧ i < len then some (.ptr r (off + i.toNat * 1) ver) else none := ixa_sl slz75 ..
@[simp] theorem ixap75 (r off len ver : Nat) (k : IntKind) (i : Int) : aIndexAddr Try.prog 75 (.part r off len ver 1) (.int k i) = if 0 ≤ i ∧ i < len then some (.ptr r (off + i.toNat * 1) ver) else none := ixa_part slz75 ..
theorem el75 : elT Try.prog 75 = true := by kernel_rfl
theorem elz75 : elZ Try.prog 75 = some (.bool false) := by kernel_rfl
theorem zt75 : zeroT Try.prog 75 = some [.slice none 0 0 0 1 false] := by kernel_rfl
theorem ar77 : arSz Try.prog 77 = some (8, 1) := by kernel_rfl
@[simp] theorem ixa77 (r off ver : Nat) (k : IntKind) (i : Int) : aIndexAddr Try.prog 77 (.ptr r off ver) (.int k i) = if 0 ≤ i ∧ i < (8 : Nat) then some (.ptr r (off + i.toNat * 1) ver) else none := ixa_ar ar77 ..
theorem ag77 : aggSz Try.prog 77 = some 8 := by kernel_rfl
@[simp] theorem ld77 (H : AH) (r off ver : Nat) : loadV Try.prog 77 H (.ptr r off ver) = (ldn H r ver 8 off).map .agg := load_agg ag77 ..
theorem zt77 : zeroT Try.prog 77 = some [.int .u8 0, .int .u8 0, .int .u8 0, .int .u8 0, .int .u8 0, .int .u8 0, .int .u8 0, .int .u8 0] := by kernel_rfl
@[simp] theorem ld81 (H : AH) (r off ver : Nat) : loadV Try.prog 81 H (.ptr r off ver) = ld H r off ver := ld_sc (by kernel_rfl) ..
theorem sc81 : scal Try.prog 81 = true := by kernel_rfl
theorem zt81 : zeroT Try.prog 81 = some [.nilfunc] := by kernel_rfl
@[simp] theorem ld94 (H : AH) (r off ver : Nat) : loadV Try.prog 94 H (.ptr r off ver) = ld H r off ver := ld_sc (by kernel_rfl) ..
theorem sc94 : scal Try.prog 94 = true := by kernel_rfl
theorem zt94 : zeroT Try.prog 94 = some [.nilfunc] := by kernel_rfl
theorem ar96 : arSz Try.prog 96 = some (8, 1) := by kernel_rfl
@[simp] theorem ixa96 (r off ver : Nat) (k : IntKind) (i : Int) : aIndexAddr Try.prog 96 (.ptr r off ver) (.int k i) = if 0 ≤ i ∧ i < (8 : Nat) then some (.ptr r (off + i.toNat * 1) ver) else none := ixa_ar ar96 ..
theorem ag96 : aggSz Try.prog 96 = some 8 := by kernel_rfl
@[simp] theorem ld96 (H : AH) (r off ver : Nat) : loadV Try.prog 96 H (.ptr r off ver) = (ldn H r ver 8 off).map .agg := load_agg ag96 ..
theorem zt96 : zeroT Try.prog 96 = some [.bool false, .bool false, .bool false, .bool false, .bool false, .bool false, .bool false, .bool false] := by kernel_rfl
theorem ar97 : arSz Try.prog 97 = some (8, 8) := by kernel_rfl
@[simp] theorem ixa97 (r off ver : Nat) (k : IntKind) (i : Int) : aIndexAddr Try.prog 97 (.ptr r off ver) (.int k i) = if 0 ≤ i ∧ i < (8 : Nat) then some (.ptr r (off + i.toNat * 8) ver) else none := ixa_ar ar97 ..
theorem ag97 : aggSz Try.prog 97 = some 64 := by kernel_rfl
@[simp] theorem ld97 (H : AH) (r off ver : Nat) : loadV Try.prog 97 H (.ptr r off ver) = (ldn H r ver 64 off).map .agg := load_agg ag97 ..
theorem zt97 : zeroT Try.prog 97 = some [.bool false, .bool false, .bool false, .bool false, .bool false, .bool false, .bool false, .bool false, .bool false, .bool false, .bool false, .bool false, .bool false, .bool false, .bool false, .bool false, .bool false, .bool false, .bool false, .bool false, .bool false, .bool false, .bool false, .bool false, .bool false, .bool false, .bool false, .bool false, .bool false, .bool false, .bool false, .bool false, .bool false, .bool false, .bool false, .bool false, .bool false, .bool false, .bool false, .bool false, .bool false, .bool false, .bool false, .bool false, .bool false, .bool false, .bool false, .bool false, .bool false, .bool false, .bool false, .bool false, .bool false, .bool false, .bool false, .bool false, .bool false, .bool false, .bool false, .bool false, .bool false, .bool false, .bool false, .bool false] := by kernel_rfl
theorem ag99 : aggSz Try.prog 99 = some 65 := by kernel_rfl
@[simp] theorem ld99 (H : AH) (r off ver : Nat) : loadV Try.prog 99 H (.ptr r off ver) = (ldn H r ver 65 off).map .agg := load_agg ag99 ..
@[simp] theorem fa99_0 (r off ver : Nat) : aFieldAddr Try.prog 99 (.ptr r off ver) 0 = some (.ptr r (off + 0) ver) := fld_ptr (by kernel_rfl) ..
@[simp] theorem fa99_1 (r off ver : Nat) : aFieldAddr Try.prog 99 (.ptr r off ver) 1 = some (.ptr r (off + 1) ver) := fld_ptr (by kernel_rfl) ..
theorem zt99 : zeroT Try.prog 99 = some (.int .i64 0 :: List.replicate 64 (.bool false)) := by kernel_rfl
@[simp] theorem ld109 (H : AH) (r off ver : Nat) : loadV Try.prog 109 H (.ptr r off ver) = ld H r off ver := ld_sc (by kernel_rfl) ..
theorem sc109 : scal Try.prog 109 = true := by kernel_rfl
theorem zt109 : zeroT Try.prog 109 = some [.nilfunc] := by kernel_rfl
@[simp] theorem ld115 (H : AH) (r off ver : Nat) : loadV Try.prog 115 H (.ptr r off ver) = ld H r off ver := ld_sc (by kernel_rfl) ..
theorem sc115 : scal Try.prog 115 = true := by kernel_rfl
theorem zt115 : zeroT Try.prog 115 = some [.int .u64 0] := by kernel_rfl
@[simp] theorem ld116 (H : AH) (r off ver : Nat) : loadV Try.prog 116 H (.ptr r off ver) = ld H r off ver := ld_sc (by kernel_rfl) ..
theorem sc116 : scal Try.prog 116 = true := by kernel_rfl
theorem zt116 : zeroT Try.prog 116 = some [.nilfunc] := by kernel_rfl
theorem ag118 : aggSz Try.prog 118 = some 3 := by kernel_rfl
@[simp] theorem ld118 (H : AH) (r off ver : Nat) : loadV Try.prog 118 H (.ptr r off ver) = (ldn H r ver 3 off).map .agg := load_agg ag118 ..
@[simp] theorem fa118_0 (r off ver : Nat) : aFieldAddr Try.prog 118 (.ptr r off ver) 0 = some (.ptr r (off + 0) ver) := fld_ptr (by kernel_rfl) ..
@[simp] theorem fa118_1 (r off ver : Nat) : aFieldAddr Try.prog 118 (.ptr r off ver) 1 = some (.ptr r (off + 1) ver) := fld_ptr (by kernel_rfl) ..
@[simp] theorem fa118_2 (r off ver : Nat) : aFieldAddr Try.prog 118 (.ptr r off ver) 2 = some (.ptr r (off + 2) ver) := fld_ptr (by kernel_rfl) ..
theorem zt118 : zeroT Try.prog 118 = some [.slice none 0 0 0 1 false, .slice none 0 0 0 1 false, .nilfunc] := by kernel_rfl
@[simp] theorem ld135 (H : AH) (r off ver : Nat) : loadV Try.prog 135 H (.ptr r off ver) = ld H r off ver := ld_sc (by kernel_rfl) ..
theorem sc135 : scal Try.prog 135 = true := by kernel_rfl
theorem zt135 : zeroT Try.prog 135 = some [.int .u64 0] := by kernel_rfl
@[simp] theorem ld137 (H : AH) (r off ver : Nat) : loadV Try.prog 137 H (.ptr r off ver) = ld H r off ver := ld_sc (by kernel_rfl) ..
theorem sc137 : scal Try.prog 137 = true := by kernel_rfl
theorem zt137 : zeroT Try.prog 137 = some [.nilptr] := by kernel_rfl
@[simp] theorem ld138 (H : AH) (r off ver : Nat) : loadV Try.prog 138 H (.ptr r off ver) = ld H r off ver := ld_sc (by kernel_rfl) ..
theorem sc138 : scal Try.prog 138 = true := by kernel_rfl
theorem zt138 : zeroT Try.prog 138 = some [.nilptr] := by kernel_rfl
@[simp] theorem ld140 (H : AH) (r off ver : Nat) : loadV Try.prog 140 H (.ptr r off ver) = ld H r off ver := ld_sc (by kernel_rfl) ..
theorem sc140 : scal Try.prog 140 = true := by kernel_rfl
theorem zt140 : zeroT Try.prog 140 = some [.int .u64 0] := by kernel_rfl
@[simp] theorem ld144 (H : AH) (r off ver : Nat) : loadV Try.prog 144 H (.ptr r off ver) = ld H r off ver := ld_sc (by kernel_rfl) ..
theorem sc144 : scal Try.prog 144 = true := by kernel_rfl
theorem zt144 : zeroT Try.prog 144 = some [.nilptr] := by kernel_rfl
@[simp] theorem cv3_115 (k : IntKind) (n : Int) : aConv Try.prog 3 115 (.int k n) = some (.int .u64 (IntKind.u64.wrap n)) := cv_int (by kernel_rfl) (by kernel_rfl) n
@[simp] theorem cv3_140 (k : IntKind) (n : Int) : aConv Try.prog 3 140 (.int k n) = some (.int .u64 (IntKind.u64.wrap n)) := cv_int (by kernel_rfl) (by kernel_rfl) n
@[simp] theorem cv5_3 (k : IntKind) (n : Int) : aConv Try.prog 5 3 (.int k n) = some (.int .i64 (IntKind.i64.wrap n)) := cv_int (by kernel_rfl) (by kernel_rfl) n
@[simp] theorem cv57_5 (k : IntKind) (n : Int) : aConv Try.prog 57 5 (.int k n) = some (.int .u8 (IntKind.u8.wrap n)) := cv_int (by kernel_rfl) (by kernel_rfl) n
@[simp] theorem cv115_3 (k : IntKind) (n : Int) : aConv Try.prog 115 3 (.int k n) = some (.int .i64 (IntKind.i64.wrap n)) := cv_int (by kernel_rfl) (by kernel_rfl) n
@[simp] theorem cv115_57 (k : IntKind) (n : Int) : aConv Try.prog 115 57 (.int k n) = some (.int .u32 (IntKind.u32.wrap n)) := cv_int (by kernel_rfl) (by kernel_rfl) n
@[simp] theorem cv135_5 (k : IntKind) (n : Int) : aConv Try.prog 135 5 (.int k n) = some (.int .u8 (IntKind.u8.wrap n)) := cv_int (by kernel_rfl) (by kernel_rfl) n
end Go.Proofs.Ytbimapbcpmeooaa
