/- What the steps ask of the types of this program. -/
import Derived.Test.YtjaefngmidllgaaBase
import Derived.Test.YtjaefngmidllgaaAxR
namespace Go.Proofs.Ytjaefngmidllgaa
open Go Go.Proofs.Ytjaefngmidllgaa.AX
@[simp] theorem ld3 (H : AH) (r off ver : Nat) : loadV Try.prog 3 H (.ptr r off ver) = ld H r off ver := ld_sc (by kernel_rfl) ..
theorem sc3 : scal Try.prog 3 = true := by kernel_rfl
theorem zt3 : zeroT Try.prog 3 = some [.int .i64 0] := by kernel_rfl
@[simp] theorem ld4 (H : AH) (r off ver : Nat) : loadV Try.prog 4 H (.ptr r off ver) = ld H r off ver := ld_sc (by kernel_rfl) ..
theorem sc4 : scal Try.prog 4 = true := by kernel_rfl
theorem zt4 : zeroT Try.prog 4 = some [.bool false] := by kernel_rfl
@[simp] theorem ld5 (H : AH) (r off ver : Nat) : loadV Try.prog 5 H (.ptr r off ver) = ld H r off ver := ld_sc (by kernel_rfl) ..
theorem sc5 : scal Try.prog 5 = true := by kernel_rfl
theorem zt5 : zeroT Try.prog 5 = some [.int .u8 0] := by kernel_rfl
@[simp] theorem ld22 (H : AH) (r off ver : Nat) : loadV Try.prog 22 H (.ptr r off ver) = ld H r off ver := ld_sc (by kernel_rfl) ..
theorem sc22 : scal Try.prog 22 = true := by kernel_rfl
theorem slz22 : slSz Try.prog 22 = some 1 := by kernel_rfl
@[simp] theorem len22 (r : Option Nat) (off len ver sz : Nat) (full : Bool) : aLen Try.prog 22 (.slice r off len ver sz full) = some (.int .i64 len) := len_sl slz22 ..
@[simp] theorem lenp22 (r off len ver sz : Nat) : aLen Try.prog 22 (.part r off len ver sz) = some (.int .i64 len) := len_part slz22 ..
@[simp] theorem ixa22 (r off len ver : Nat) (full : Bool) (k : IntKind) (i : Int) : aIndexAddr Try.prog 22 (.slice (some r) off len ver 1 full) (.int k i) = if 0 ≤ i ∧ i < len then some (.ptr r (off + i.toNat * 1) ver) else none := ixa_sl slz22 ..
@[simp] theorem ixap22 (r off len ver : Nat) (k : IntKind) (i : Int) : aIndexAddr Try.prog 22 (.part r off len ver 1) (.int k i) = if 0 ≤ i ∧ i < len then some (.ptr r (off + i.toNat * 1) ver) else none := ixa_part slz22 ..
theorem el22 : elT Try.prog 22 = true := by kernel_rfl
theorem elz22 : elZ Try.prog 22 = some (.int .i64 0) := by kernel_rfl
@[simp] theorem row22 (H : AH) (b : Int) : rowV Try.prog 22 1 [(0, .int .i64 b)] H = some (some (.slice (some H.length) 0 1 0 1 false), H ++ [.row [.int .i64 b] 0 1 false]) := row1 el22 rfl rfl
theorem zt22 : zeroT Try.prog 22 = some [.slice none 0 0 0 1 false] := by kernel_rfl
@[simp] theorem ld29 (H : AH) (r off ver : Nat) : loadV Try.prog 29 H (.ptr r off ver) = ld H r off ver := ld_sc (by kernel_rfl) ..
theorem sc29 : scal Try.prog 29 = true := by kernel_rfl
theorem zt29 : zeroT Try.prog 29 = some [.nilfunc] := by kernel_rfl
@[simp] theorem ld41 (H : AH) (r off ver : Nat) : loadV Try.prog 41 H (.ptr r off ver) = ld H r off ver := ld_sc (by kernel_rfl) ..
theorem sc41 : scal Try.prog 41 = true := by kernel_rfl
theorem zt41 : zeroT Try.prog 41 = some [.nilmap] := by kernel_rfl
@[simp] theorem ld46 (H : AH) (r off ver : Nat) : loadV Try.prog 46 H (.ptr r off ver) = ld H r off ver := ld_sc (by kernel_rfl) ..
theorem sc46 : scal Try.prog 46 = true := by kernel_rfl
theorem zt46 : zeroT Try.prog 46 = some [.nilfunc] := by kernel_rfl
theorem ar48 : arSz Try.prog 48 = some (9, 1) := by kernel_rfl
@[simp] theorem ixa48 (r off ver : Nat) (k : IntKind) (i : Int) : aIndexAddr Try.prog 48 (.ptr r off ver) (.int k i) = if 0 ≤ i ∧ i < (9 : Nat) then some (.ptr r (off + i.toNat * 1) ver) else none := ixa_ar ar48 ..
theorem ag48 : aggSz Try.prog 48 = some 9 := by kernel_rfl
@[simp] theorem ld48 (H : AH) (r off ver : Nat) : loadV Try.prog 48 H (.ptr r off ver) = (ldn H r ver 9 off).map .agg := load_agg ag48 ..
theorem zt48 : zeroT Try.prog 48 = some [.int .u8 0, .int .u8 0, .int .u8 0, .int .u8 0, .int .u8 0, .int .u8 0, .int .u8 0, .int .u8 0, .int .u8 0] := by kernel_rfl
theorem ag50 : aggSz Try.prog 50 = some 19 := by kernel_rfl
@[simp] theorem ld50 (H : AH) (r off ver : Nat) : loadV Try.prog 50 H (.ptr r off ver) = (ldn H r ver 19 off).map .agg := load_agg ag50 ..
@[simp] theorem fa50_0 (r off ver : Nat) : aFieldAddr Try.prog 50 (.ptr r off ver) 0 = some (.ptr r (off + 0) ver) := fld_ptr (by kernel_rfl) ..
@[simp] theorem fa50_1 (r off ver : Nat) : aFieldAddr Try.prog 50 (.ptr r off ver) 1 = some (.ptr r (off + 1) ver) := fld_ptr (by kernel_rfl) ..
@[simp] theorem fa50_2 (r off ver : Nat) : aFieldAddr Try.prog 50 (.ptr r off ver) 2 = some (.ptr r (off + 10) ver) := fld_ptr (by kernel_rfl) ..
theorem zt50 : zeroT Try.prog 50 = some [.int .u8 0, .int .u8 0, .int .u8 0, .int .u8 0, .int .u8 0, .int .u8 0, .int .u8 0, .int .u8 0, .int .u8 0, .int .u8 0, .int .u8 0, .int .u8 0, .int .u8 0, .int .u8 0, .int .u8 0, .int .u8 0, .int .u8 0, .int .u8 0, .int .u8 0] := by kernel_rfl
@[simp] theorem ld55 (H : AH) (r off ver : Nat) : loadV Try.prog 55 H (.ptr r off ver) = ld H r off ver := ld_sc (by kernel_rfl) ..
theorem sc55 : scal Try.prog 55 = true := by kernel_rfl
theorem zt55 : zeroT Try.prog 55 = some [.nilmap] := by kernel_rfl
theorem ar56 : arSz Try.prog 56 = some (2, 1) := by kernel_rfl
@[simp] theorem ixa56 (r off ver : Nat) (k : IntKind) (i : Int) : aIndexAddr Try.prog 56 (.ptr r off ver) (.int k i) = if 0 ≤ i ∧ i < (2 : Nat) then some (.ptr r (off + i.toNat * 1) ver) else none := ixa_ar ar56 ..
theorem ag56 : aggSz Try.prog 56 = some 2 := by kernel_rfl
@[simp] theorem ld56 (H : AH) (r off ver : Nat) : loadV Try.prog 56 H (.ptr r off ver) = (ldn H r ver 2 off).map .agg := load_agg ag56 ..
theorem zt56 : zeroT Try.prog 56 = some [.int .i64 0, .int .i64 0] := by kernel_rfl
theorem ar57 : arSz Try.prog 57 = some (8, 1) := by kernel_rfl
@[simp] theorem ixa57 (r off ver : Nat) (k : IntKind) (i : Int) : aIndexAddr Try.prog 57 (.ptr r off ver) (.int k i) = if 0 ≤ i ∧ i < (8 : Nat) then some (.ptr r (off + i.toNat * 1) ver) else none := ixa_ar ar57 ..
theorem ag57 : aggSz Try.prog 57 = some 8 := by kernel_rfl
@[simp] theorem ld57 (H : AH) (r off ver : Nat) : loadV Try.prog 57 H (.ptr r off ver) = (ldn H r ver 8 off).map .agg := load_agg ag57 ..
theorem zt57 : zeroT Try.prog 57 = some [.int .i64 0, .int .i64 0, .int .i64 0, .int .i64 0, .int .i64 0, .int .i64 0, .int .i64 0, .int .i64 0] := by kernel_rfl
@[simp] theorem ld70 (H : AH) (r off ver : Nat) : loadV Try.prog 70 H (.ptr r off ver) = ld H r off ver := ld_sc (by kernel_rfl) ..
theorem sc70 : scal Try.prog 70 = true := by kernel_rfl
theorem slz70 : slSz Try.prog 70 = some 2 := by kernel_rfl
@[simp] theorem len70 (r : Option Nat) (off len ver sz : Nat) (full : Bool) : aLen Try.prog 70 (.slice r off len ver sz full) = some (.int .i64 len) := len_sl slz70 ..
@[simp] theorem lenp70 (r off len ver sz : Nat) : aLen Try.prog 70 (.part r off len ver sz) = some (.int .i64 len) := len_part slz70 ..
@[simp] theorem ixa70 (r off len ver : Nat) (full : Bool) (k : IntKind) (i : Int) : aIndexAddr Try.prog 70 (.slice (some r) off len ver 2 full) (.int k i) = if 0 ≤ i ∧ i < len then some (.ptr r (off + i.toNat * 2) ver) else none := ixa_sl slz70 ..
@[simp] theorem ixap70 (r off len ver : Nat) (k : IntKind) (i : Int) : aIndexAddr Try.prog 70 (.part r off len ver 2) (.int k i) = if 0 ≤ i ∧ i < len then some (.ptr r (off + i.toNat * 2) ver) else none := ixa_part slz70 ..
theorem zt70 : zeroT Try.prog 70 = some [.slice none 0 0 0 1 false] := by kernel_rfl
@[simp] theorem ld73 (H : AH) (r off ver : Nat) : loadV Try.prog 73 H (.ptr r off ver) = ld H r off ver := ld_sc (by kernel_rfl) ..
theorem sc73 : scal Try.prog 73 = true := by kernel_rfl
theorem zt73 : zeroT Try.prog 73 = some [.nilfunc] := by kernel_rfl
@[simp] theorem ld74 (H : AH) (r off ver : Nat) : loadV Try.prog 74 H (.ptr r off ver) = ld H r off ver := ld_sc (by kernel_rfl) ..
theorem sc74 : scal Try.prog 74 = true := by kernel_rfl
theorem slz74 : slSz Try.prog 74 = some 2 := by kernel_rfl
@[simp] theorem len74 (r : Option Nat) (off len ver sz : Nat) (full : Bool) : aLen Try.prog 74 (.slice r off len ver sz full) = some (.int .i64 len) := len_sl slz74 ..
@[simp] theorem lenp74 (r off len ver sz : Nat) : aLen Try.prog 74 (.part r off len ver sz) = some (.int .i64 len) := len_part slz74 ..
@[simp] theorem ixa74 (r off len ver : Nat) (full : Bool) (k : IntKind) (i : Int) : aIndexAddr Try.prog 74 (.slice (some r) off len ver 2 full) (.int k i) = if 0 ≤ i ∧ i < len then some (.ptr r (off + i.toNat * 2) ver) else none := ixa_sl slz74 ..
@[simp] theorem ixap74 (r off len ver : Nat) (k : IntKind) (i : Int) : aIndexAddr Try.prog 74 (.part r off len ver 2) (.int k i) = if 0 ≤ i ∧ i < len then some (.ptr r (off + i.toNat * 2) ver) else none := ixa_part slz74 ..
theorem zt74 : zeroT Try.prog 74 = some [.slice none 0 0 0 1 false] := by kernel_rfl
@[simp] theorem ld76 (H : AH) (r off ver : Nat) : loadV Try.prog 76 H (.ptr r off ver) = ld H r off ver := ld_sc (by kernel_rfl) ..
theorem sc76 : scal Try.prog 76 = true := by kernel_rfl
theorem zt76 : zeroT Try.prog 76 = some [.nilmap] := by kernel_rfl
theorem ag78 : aggSz Try.prog 78 = some 1 := by kernel_rfl
@[simp] theorem ld78 (H : AH) (r off ver : Nat) : loadV Try.prog 78 H (.ptr r off ver) = (ldn H r ver 1 off).map .agg := load_agg ag78 ..
@[simp] theorem fa78_0 (r off ver : Nat) : aFieldAddr Try.prog 78 (.ptr r off ver) 0 = some (.ptr r (off + 0) ver) := fld_ptr (by kernel_rfl) ..
theorem zt78 : zeroT Try.prog 78 = some [.nilmap] := by kernel_rfl
theorem ag82 : aggSz Try.prog 82 = some 2 := by kernel_rfl
@[simp] theorem ld82 (H : AH) (r off ver : Nat) : loadV Try.prog 82 H (.ptr r off ver) = (ldn H r ver 2 off).map .agg := load_agg ag82 ..
@[simp] theorem fa82_0 (r off ver : Nat) : aFieldAddr Try.prog 82 (.ptr r off ver) 0 = some (.ptr r (off + 0) ver) := fld_ptr (by kernel_rfl) ..
@[simp] theorem fa82_1 (r off ver : Nat) : aFieldAddr Try.prog 82 (.ptr r off ver) 1 = some (.ptr r (off + 1) ver) := fld_ptr (by kernel_rfl) ..
@[simp] theorem built82 (x0 x1 : Int) : aBuilt Try.prog 82 [(0, .int .i64 x0), (1, .int .i64 x1)] = some [.int .i64 x0, .int .i64 x1] := by kernel_rfl
theorem zt82 : zeroT Try.prog 82 = some [.int .i64 0, .int .i64 0] := by kernel_rfl
theorem ar84 : arSz Try.prog 84 = some (9, 1) := by kernel_rfl
@[simp] theorem ixa84 (r off ver : Nat) (k : IntKind) (i : Int) : aIndexAddr Try.prog 84 (.ptr r off ver) (.int k i) = if 0 ≤ i ∧ i < (9 : Nat) then some (.ptr r (off + i.toNat * 1) ver) else none := ixa_ar ar84 ..
theorem ag84 : aggSz Try.prog 84 = some 9 := by kernel_rfl
@[simp] theorem ld84 (H : AH) (r off ver : Nat) : loadV Try.prog 84 H (.ptr r off ver) = (ldn H r ver 9 off).map .agg := load_agg ag84 ..
theorem zt84 : zeroT Try.prog 84 = some [.int .i64 0, .int .i64 0, .int .i64 0, .int .i64 0, .int .i64 0, .int .i64 0, .int .i64 0, .int .i64 0, .int .i64 0] := by kernel_rfl
@[simp] theorem ld85 (H : AH) (r off ver : Nat) : loadV Try.prog 85 H (.ptr r off ver) = ld H r off ver := ld_sc (by kernel_rfl) ..
theorem sc85 : scal Try.prog 85 = true := by kernel_rfl
theorem slz85 : slSz Try.prog 85 = some 9 := by kernel_rfl
@[simp] theorem len85 (r : Option Nat) (off len ver sz : Nat) (full : Bool) : aLen Try.prog 85 (.slice r off len ver sz full) = some (.int .i64 len) := len_sl slz85 ..
@[simp] theorem lenp85 (r off len ver sz : Nat) : aLen Try.prog 85 (.part r off len ver sz) = some (.int .i64 len) := len_part slz85 ..
@[simp] theorem ixa85 (r off len ver : Nat) (full : Bool) (k : IntKind) (i : Int) : aIndexAddr Try.prog 85 (.slice (some r) off len ver 9 full) (.int k i) = if 0 ≤ i ∧ i < len then some (.ptr r (off + i.toNat * 9) ver) else none := ixa_sl slz85 ..
@[simp] theorem ixap85 (r off len ver : Nat) (k : IntKind) (i : Int) : aIndexAddr Try.prog 85 (.part r off len ver 9) (.int k i) = if 0 ≤ i ∧ i < len then some (.ptr r (off + i.toNat * 9) ver) else none := ixa_part slz85 ..
theorem zt85 : zeroT Try.prog 85 = some [.slice none 0 0 0 1 false] := by kernel_rfl
@[simp] theorem ld88 (H : AH) (r off ver : Nat) : loadV Try.prog 88 H (.ptr r off ver) = ld H r off ver := ld_sc (by kernel_rfl) ..
theorem sc88 : scal Try.prog 88 = true := by kernel_rfl
theorem slz88 : slSz Try.prog 88 = some 1 := by kernel_rfl
@[simp] theorem len88 (r : Option Nat) (off len ver sz : Nat) (full : Bool) : aLen Try.prog 88 (.slice r off len ver sz full) = some (.int .i64 len) := len_sl slz88 ..
@[simp] theorem lenp88 (r off len ver sz : Nat) : aLen Try.prog 88 (.part r off len ver sz) = some (.int .i64 len) := len_part slz88 ..
@[simp] theorem ixa88 (r off len ver : Nat) (full : Bool) (k : IntKind) (i : Int) : aIndexAddr Try.prog 88 (.slice (some r) off len ver 1 full) (.int k i) = if 0 ≤ i ∧ i < len then some (.ptr r (off + i.toNat * 1) ver) else none := ixa_sl slz88 ..
@[simp] theorem ixap88 (r off len ver : Nat) (k : IntKind) (i : Int) : aIndexAddr Try.prog 88 (.part r off len ver 1) (.int k i) = if 0 ≤ i ∧ i < len then some (.ptr r (off + i.toNat * 1) ver) else none := ixa_part slz88 ..
theorem el88 : elT Try.prog 88 = true := by kernel_rfl
theorem elz88 : elZ Try.prog 88 = some (.int .u8 0) := by kernel_rfl
@[simp] theorem row88 (H : AH) (b : Int) : rowV Try.prog 88 1 [(0, .int .u8 b)] H = some (some (.slice (some H.length) 0 1 0 1 false), H ++ [.row [.int .u8 b] 0 1 false]) := row1 el88 rfl rfl
theorem zt88 : zeroT Try.prog 88 = some [.slice none 0 0 0 1 false] := by kernel_rfl
theorem ag93 : aggSz Try.prog 93 = some 1 := by kernel_rfl
@[simp] theorem ld93 (H : AH) (r off ver : Nat) : loadV Try.prog 93 H (.ptr r off ver) = (ldn H r ver 1 off).map .agg := load_agg ag93 ..
@[simp] theorem fa93_0 (r off ver : Nat) : aFieldAddr Try.prog 93 (.ptr r off ver) 0 = some (.ptr r (off + 0) ver) := fld_ptr (by kernel_rfl) ..
theorem zt93 : zeroT Try.prog 93 = some [.nilmap] := by kernel_rfl
@[simp] theorem ld95 (H : AH) (r off ver : Nat) : loadV Try.prog 95 H (.ptr r off ver) = ld H r off ver := ld_sc (by kernel_rfl) ..
theorem sc95 : scal Try.prog 95 = true := by kernel_rfl
theorem zt95 : zeroT Try.prog 95 = some [.nilmap] := by kernel_rfl
theorem ag97 : aggSz Try.prog 97 = some 1 := by kernel_rfl
@[simp] theorem ld97 (H : AH) (r off ver : Nat) : loadV Try.prog 97 H (.ptr r off ver) = (ldn H r ver 1 off).map .agg := load_agg ag97 ..
@[simp] theorem fa97_0 (r off ver : Nat) : aFieldAddr Try.prog 97 (.ptr r off ver) 0 = some (.ptr r (off + 0) ver) := fld_ptr (by kernel_rfl) ..
theorem zt97 : zeroT Try.prog 97 = some [.nilmap] := by kernel_rfl
@[simp] theorem cv3_5 (k : IntKind) (n : Int) : aConv Try.prog 3 5 (.int k n) = some (.int .u8 (IntKind.u8.wrap n)) := cv_int (by kernel_rfl) (by kernel_rfl) n
@[simp] theorem cv3_21 (k : IntKind) (n : Int) : aConv Try.prog 3 21 (.int k n) = some (.int .i32 (IntKind.i32.wrap n)) := cv_int (by kernel_rfl) (by kernel_rfl) n
@[simp] theorem cv5_3 (k : IntKind) (n : Int) : aConv Try.prog 5 3 (.int k n) = some (.int .i64 (IntKind.i64.wrap n)) := cv_int (by kernel_rfl) (by kernel_rfl) n
end Go.Proofs.Ytjaefngmidllgaa
