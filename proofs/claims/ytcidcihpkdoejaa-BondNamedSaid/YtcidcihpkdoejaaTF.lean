/- What the steps ask of the types of this program. -/
import Derived.Test.YtcidcihpkdoejaaBase
import Derived.Test.YtcidcihpkdoejaaAxR
namespace Go.Proofs.Ytcidcihpkdoejaa
open Go Go.Proofs.Ytcidcihpkdoejaa.AX
@[simp] theorem ld3 (H : AH) (r off ver : Nat) : loadV Try.prog 3 H (.ptr r off ver) = ld H r off ver := ld_sc (by kernel_rfl) ..
theorem sc3 : scal Try.prog 3 = true := by kernel_rfl
theorem zt3 : zeroT Try.prog 3 = some [.int .i64 0] := by kernel_rfl
@[simp] theorem ld5 (H : AH) (r off ver : Nat) : loadV Try.prog 5 H (.ptr r off ver) = ld H r off ver := ld_sc (by kernel_rfl) ..
theorem sc5 : scal Try.prog 5 = true := by kernel_rfl
theorem zt5 : zeroT Try.prog 5 = some [.int .u8 0] := by kernel_rfl
@[simp] theorem ld9 (H : AH) (r off ver : Nat) : loadV Try.prog 9 H (.ptr r off ver) = ld H r off ver := ld_sc (by kernel_rfl) ..
theorem sc9 : scal Try.prog 9 = true := by kernel_rfl
theorem zt9 : zeroT Try.prog 9 = some [.str []] := by kernel_rfl
@[simp] theorem ld22 (H : AH) (r off ver : Nat) : loadV Try.prog 22 H (.ptr r off ver) = ld H r off ver := ld_sc (by kernel_rfl) ..
theorem sc22 : scal Try.prog 22 = true := by kernel_rfl
theorem slz22 : slSz Try.prog 22 = some 1 := by kernel_rfl
@[simp] theorem len22 (r : Option Nat) (off len ver sz : Nat) (full : Bool) : aLen Try.prog 22 (.slice r off len ver sz full) = some (.int .i64 len) := len_sl slz22 ..
@[simp] theorem lenp22 (r off len ver sz : Nat) : aLen Try.prog 22 (.part r off len ver sz) = some (.int .i64 len) := len_part slz22 ..
@[simp] theorem ixa22 (r off len ver : Nat) (full : Bool) (k : IntKind) (i : Int) : aIndexAddr Try.prog 22 (.slice (some r) off len ver 1 full) (.int k i) = if 0 ≤ i ∧ i < len then some (.ptr r (off + i.toNat * 1) ver) else none := ixa_sl slz22 ..
@[simp] theorem ixap22 (r off len ver : Nat) (k : IntKind) (i : Int) : aIndexAddr Try.prog 22 (.part r off len ver 1) (.int k i) = if 0 ≤ i ∧ i < len then some (.ptr r (off + i.toNat * 1) ver) else none := ixa_part slz22 ..
theorem el22 : elT Try.prog 22 = true := by kernel_rfl
theorem elz22 : elZ Try.prog 22 = some (.int .i64 0) := by kernel_rfl
@[simp] theorem row22 (H : AH) (b : Int) : rowV Try.prog 22 1 [(0, .int .i64 b)] H = some (some (.slice (some H.length) 0 1 0 1 false), H ++ [.row [.int .i64 b] 0 1 false]) := row1 el22 rfl rfl
theorem zt22 : zeroT Try.prog 22 = some [.slice none 0 0 0 1 false] := by kernel_rfl
theorem ag24 : aggSz Try.prog 24 = some 2 := by kernel_rfl
@[simp] theorem ld24 (H : AH) (r off ver : Nat) : loadV Try.prog 24 H (.ptr r off ver) = (ldn H r ver 2 off).map .agg := load_agg ag24 ..
@[simp] theorem fa24_0 (r off ver : Nat) : aFieldAddr Try.prog 24 (.ptr r off ver) 0 = some (.ptr r (off + 0) ver) := fld_ptr (by kernel_rfl) ..
@[simp] theorem fa24_1 (r off ver : Nat) : aFieldAddr Try.prog 24 (.ptr r off ver) 1 = some (.ptr r (off + 1) ver) := fld_ptr (by kernel_rfl) ..
theorem zt24 : zeroT Try.prog 24 = some [.int .i64 0, .slice none 0 0 0 1 false] := by kernel_rfl
theorem ag27 : aggSz Try.prog 27 = some 2 := by kernel_rfl
@[simp] theorem ld27 (H : AH) (r off ver : Nat) : loadV Try.prog 27 H (.ptr r off ver) = (ldn H r ver 2 off).map .agg := load_agg ag27 ..
@[simp] theorem fa27_0 (r off ver : Nat) : aFieldAddr Try.prog 27 (.ptr r off ver) 0 = some (.ptr r (off + 0) ver) := fld_ptr (by kernel_rfl) ..
@[simp] theorem fa27_1 (r off ver : Nat) : aFieldAddr Try.prog 27 (.ptr r off ver) 1 = some (.ptr r (off + 1) ver) := fld_ptr (by kernel_rfl) ..
theorem zt27 : zeroT Try.prog 27 = some [.int .i64 0, .slice none 0 0 0 1 false] := by kernel_rfl
theorem ag40 : aggSz Try.prog 40 = some 2 := by kernel_rfl
@[simp] theorem ld40 (H : AH) (r off ver : Nat) : loadV Try.prog 40 H (.ptr r off ver) = (ldn H r ver 2 off).map .agg := load_agg ag40 ..
@[simp] theorem fa40_0 (r off ver : Nat) : aFieldAddr Try.prog 40 (.ptr r off ver) 0 = some (.ptr r (off + 0) ver) := fld_ptr (by kernel_rfl) ..
@[simp] theorem fa40_1 (r off ver : Nat) : aFieldAddr Try.prog 40 (.ptr r off ver) 1 = some (.ptr r (off + 1) ver) := fld_ptr (by kernel_rfl) ..
theorem zt40 : zeroT Try.prog 40 = some [.int .i64 0, .slice none 0 0 0 1 false] := by kernel_rfl
theorem ag41 : aggSz Try.prog 41 = some 2 := by kernel_rfl
@[simp] theorem ld41 (H : AH) (r off ver : Nat) : loadV Try.prog 41 H (.ptr r off ver) = (ldn H r ver 2 off).map .agg := load_agg ag41 ..
@[simp] theorem fa41_0 (r off ver : Nat) : aFieldAddr Try.prog 41 (.ptr r off ver) 0 = some (.ptr r (off + 0) ver) := fld_ptr (by kernel_rfl) ..
@[simp] theorem fa41_1 (r off ver : Nat) : aFieldAddr Try.prog 41 (.ptr r off ver) 1 = some (.ptr r (off + 1) ver) := fld_ptr (by kernel_rfl) ..
theorem zt41 : zeroT Try.prog 41 = some [.int .i64 0, .slice none 0 0 0 1 false] := by kernel_rfl
theorem ar66 : arSz Try.prog 66 = some (8, 1) := by kernel_rfl
@[simp] theorem ixa66 (r off ver : Nat) (k : IntKind) (i : Int) : aIndexAddr Try.prog 66 (.ptr r off ver) (.int k i) = if 0 ≤ i ∧ i < (8 : Nat) then some (.ptr r (off + i.toNat * 1) ver) else none := ixa_ar ar66 ..
theorem ag66 : aggSz Try.prog 66 = some 8 := by kernel_rfl
@[simp] theorem ld66 (H : AH) (r off ver : Nat) : loadV Try.prog 66 H (.ptr r off ver) = (ldn H r ver 8 off).map .agg := load_agg ag66 ..
theorem zt66 : zeroT Try.prog 66 = some [.int .u8 0, .int .u8 0, .int .u8 0, .int .u8 0, .int .u8 0, .int .u8 0, .int .u8 0, .int .u8 0] := by kernel_rfl
theorem ag68 : aggSz Try.prog 68 = some 10 := by kernel_rfl
@[simp] theorem ld68 (H : AH) (r off ver : Nat) : loadV Try.prog 68 H (.ptr r off ver) = (ldn H r ver 10 off).map .agg := load_agg ag68 ..
@[simp] theorem fa68_0 (r off ver : Nat) : aFieldAddr Try.prog 68 (.ptr r off ver) 0 = some (.ptr r (off + 0) ver) := fld_ptr (by kernel_rfl) ..
@[simp] theorem fa68_1 (r off ver : Nat) : aFieldAddr Try.prog 68 (.ptr r off ver) 1 = some (.ptr r (off + 1) ver) := fld_ptr (by kernel_rfl) ..
@[simp] theorem fa68_2 (r off ver : Nat) : aFieldAddr Try.prog 68 (.ptr r off ver) 2 = some (.ptr r (off + 2) ver) := fld_ptr (by kernel_rfl) ..
theorem zt68 : zeroT Try.prog 68 = some [.int .u8 0, .int .u8 0, .int .u8 0, .int .u8 0, .int .u8 0, .int .u8 0, .int .u8 0, .int .u8 0, .int .u8 0, .int .u8 0] := by kernel_rfl
@[simp] theorem ld72 (H : AH) (r off ver : Nat) : loadV Try.prog 72 H (.ptr r off ver) = ld H r off ver := ld_sc (by kernel_rfl) ..
theorem sc72 : scal Try.prog 72 = true := by kernel_rfl
theorem zt72 : zeroT Try.prog 72 = some [.int .u64 0] := by kernel_rfl
@[simp] theorem ld75 (H : AH) (r off ver : Nat) : loadV Try.prog 75 H (.ptr r off ver) = ld H r off ver := ld_sc (by kernel_rfl) ..
theorem sc75 : scal Try.prog 75 = true := by kernel_rfl
theorem zt75 : zeroT Try.prog 75 = some [.nilmap] := by kernel_rfl
@[simp] theorem ld79 (H : AH) (r off ver : Nat) : loadV Try.prog 79 H (.ptr r off ver) = ld H r off ver := ld_sc (by kernel_rfl) ..
theorem sc79 : scal Try.prog 79 = true := by kernel_rfl
theorem zt79 : zeroT Try.prog 79 = some [.nilfunc] := by kernel_rfl
theorem ar86 : arSz Try.prog 86 = some (6, 1) := by kernel_rfl
@[simp] theorem ixa86 (r off ver : Nat) (k : IntKind) (i : Int) : aIndexAddr Try.prog 86 (.ptr r off ver) (.int k i) = if 0 ≤ i ∧ i < (6 : Nat) then some (.ptr r (off + i.toNat * 1) ver) else none := ixa_ar ar86 ..
theorem ag86 : aggSz Try.prog 86 = some 6 := by kernel_rfl
@[simp] theorem ld86 (H : AH) (r off ver : Nat) : loadV Try.prog 86 H (.ptr r off ver) = (ldn H r ver 6 off).map .agg := load_agg ag86 ..
theorem zt86 : zeroT Try.prog 86 = some [.int .u8 0, .int .u8 0, .int .u8 0, .int .u8 0, .int .u8 0, .int .u8 0] := by kernel_rfl
theorem ag92 : aggSz Try.prog 92 = some 2 := by kernel_rfl
@[simp] theorem ld92 (H : AH) (r off ver : Nat) : loadV Try.prog 92 H (.ptr r off ver) = (ldn H r ver 2 off).map .agg := load_agg ag92 ..
@[simp] theorem fa92_0 (r off ver : Nat) : aFieldAddr Try.prog 92 (.ptr r off ver) 0 = some (.ptr r (off + 0) ver) := fld_ptr (by kernel_rfl) ..
@[simp] theorem fa92_1 (r off ver : Nat) : aFieldAddr Try.prog 92 (.ptr r off ver) 1 = some (.ptr r (off + 1) ver) := fld_ptr (by kernel_rfl) ..
theorem zt92 : zeroT Try.prog 92 = some [.int .i64 0, .slice none 0 0 0 1 false] := by kernel_rfl
theorem ag94 : aggSz Try.prog 94 = some 2 := by kernel_rfl
@[simp] theorem ld94 (H : AH) (r off ver : Nat) : loadV Try.prog 94 H (.ptr r off ver) = (ldn H r ver 2 off).map .agg := load_agg ag94 ..
@[simp] theorem fa94_0 (r off ver : Nat) : aFieldAddr Try.prog 94 (.ptr r off ver) 0 = some (.ptr r (off + 0) ver) := fld_ptr (by kernel_rfl) ..
theorem zt94 : zeroT Try.prog 94 = some [.int .i64 0, .slice none 0 0 0 1 false] := by kernel_rfl
theorem ag104 : aggSz Try.prog 104 = some 2 := by kernel_rfl
@[simp] theorem ld104 (H : AH) (r off ver : Nat) : loadV Try.prog 104 H (.ptr r off ver) = (ldn H r ver 2 off).map .agg := load_agg ag104 ..
@[simp] theorem fa104_0 (r off ver : Nat) : aFieldAddr Try.prog 104 (.ptr r off ver) 0 = some (.ptr r (off + 0) ver) := fld_ptr (by kernel_rfl) ..
theorem zt104 : zeroT Try.prog 104 = some [.int .i64 0, .slice none 0 0 0 1 false] := by kernel_rfl
@[simp] theorem ld110 (H : AH) (r off ver : Nat) : loadV Try.prog 110 H (.ptr r off ver) = ld H r off ver := ld_sc (by kernel_rfl) ..
theorem sc110 : scal Try.prog 110 = true := by kernel_rfl
theorem slz110 : slSz Try.prog 110 = some 1 := by kernel_rfl
@[simp] theorem len110 (r : Option Nat) (off len ver sz : Nat) (full : Bool) : aLen Try.prog 110 (.slice r off len ver sz full) = some (.int .i64 len) := len_sl slz110 ..
@[simp] theorem lenp110 (r off len ver sz : Nat) : aLen Try.prog 110 (.part r off len ver sz) = some (.int .i64 len) := len_part slz110 ..
@[simp] theorem ixa110 (r off len ver : Nat) (full : Bool) (k : IntKind) (i : Int) : aIndexAddr Try.prog 110 (.slice (some r) off len ver 1 full) (.int k i) = if 0 ≤ i ∧ i < len then some (.ptr r (off + i.toNat * 1) ver) else none := ixa_sl slz110 ..
@[simp] theorem ixap110 (r off len ver : Nat) (k : IntKind) (i : Int) : aIndexAddr Try.prog 110 (.part r off len ver 1) (.int k i) = if 0 ≤ i ∧ i < len then some (.ptr r (off + i.toNat * 1) ver) else none := ixa_part slz110 ..
theorem el110 : elT Try.prog 110 = true := by kernel_rfl
theorem elz110 : elZ Try.prog 110 = some (.int .u8 0) := by kernel_rfl
@[simp] theorem row110 (H : AH) (b : Int) : rowV Try.prog 110 1 [(0, .int .u8 b)] H = some (some (.slice (some H.length) 0 1 0 1 false), H ++ [.row [.int .u8 b] 0 1 false]) := row1 el110 rfl rfl
theorem zt110 : zeroT Try.prog 110 = some [.slice none 0 0 0 1 false] := by kernel_rfl
@[simp] theorem ld112 (H : AH) (r off ver : Nat) : loadV Try.prog 112 H (.ptr r off ver) = ld H r off ver := ld_sc (by kernel_rfl) ..
theorem sc112 : scal Try.prog 112 = true := by kernel_rfl
theorem zt112 : zeroT Try.prog 112 = some [.int .u32 0] := by kernel_rfl
@[simp] theorem ld114 (H : AH) (r off ver : Nat) : loadV Try.prog 114 H (.ptr r off ver) = ld H r off ver := ld_sc (by kernel_rfl) ..
theorem sc114 : scal Try.prog 114 = true := by kernel_rfl
theorem zt114 : zeroT Try.prog 114 = some [.int .u64 0] := by kernel_rfl
@[simp] theorem ld127 (H : AH) (r off ver : Nat) : loadV Try.prog 127 H (.ptr r off ver) = ld H r off ver := ld_sc (by kernel_rfl) ..
theorem sc127 : scal Try.prog 127 = true := by kernel_rfl
theorem zt127 : zeroT Try.prog 127 = some [.int .u64 0] := by kernel_rfl
@[simp] theorem ld131 (H : AH) (r off ver : Nat) : loadV Try.prog 131 H (.ptr r off ver) = ld H r off ver := ld_sc (by kernel_rfl) ..
theorem sc131 : scal Try.prog 131 = true := by kernel_rfl
theorem zt131 : zeroT Try.prog 131 = some [.nilptr] := by kernel_rfl
@[simp] theorem cv3_72 (k : IntKind) (n : Int) : aConv Try.prog 3 72 (.int k n) = some (.int .u64 (IntKind.u64.wrap n)) := cv_int (by kernel_rfl) (by kernel_rfl) n
@[simp] theorem cv3_127 (k : IntKind) (n : Int) : aConv Try.prog 3 127 (.int k n) = some (.int .u64 (IntKind.u64.wrap n)) := cv_int (by kernel_rfl) (by kernel_rfl) n
@[simp] theorem cv5_3 (k : IntKind) (n : Int) : aConv Try.prog 5 3 (.int k n) = some (.int .i64 (IntKind.i64.wrap n)) := cv_int (by kernel_rfl) (by kernel_rfl) n
@[simp] theorem cv72_3 (k : IntKind) (n : Int) : aConv Try.prog 72 3 (.int k n) = some (.int .i64 (IntKind.i64.wrap n)) := cv_int (by kernel_rfl) (by kernel_rfl) n
@[simp] theorem cv72_112 (k : IntKind) (n : Int) : aConv Try.prog 72 112 (.int k n) = some (.int .u32 (IntKind.u32.wrap n)) := cv_int (by kernel_rfl) (by kernel_rfl) n
@[simp] theorem cv112_5 (k : IntKind) (n : Int) : aConv Try.prog 112 5 (.int k n) = some (.int .u8 (IntKind.u8.wrap n)) := cv_int (by kernel_rfl) (by kernel_rfl) n
@[simp] theorem cv114_3 (k : IntKind) (n : Int) : aConv Try.prog 114 3 (.int k n) = some (.int .i64 (IntKind.i64.wrap n)) := cv_int (by kernel_rfl) (by kernel_rfl) n
@[simp] theorem cv114_5 (k : IntKind) (n : Int) : aConv Try.prog 114 5 (.int k n) = some (.int .u8 (IntKind.u8.wrap n)) := cv_int (by kernel_rfl) (by kernel_rfl) n
end Go.Proofs.Ytcidcihpkdoejaa
