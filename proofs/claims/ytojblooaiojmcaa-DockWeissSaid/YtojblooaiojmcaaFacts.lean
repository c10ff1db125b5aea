/- What the steps ask of the types of this program. -/
import Derived.Test.YtojblooaiojmcaaBase
import Derived.Test.YtojblooaiojmcaaAxW
namespace Go.Proofs.Ytojblooaiojmcaa
open Go Go.Proofs.Ytojblooaiojmcaa.AX
@[simp] theorem notI91 : notI Try.prog 91 = true := by kernel_rfl
@[simp] theorem notI93 : notI Try.prog 93 = true := by kernel_rfl
@[simp] theorem len22 (r : Option Nat) (off len ver sz : Nat) (full : Bool) : aLen Try.prog 22 (.slice r off len ver sz full) = some (.int .i64 len) := len_sl (n := 1) (by kernel_rfl) ..
@[simp] theorem ixa22 (r off len ver : Nat) (full : Bool) (k : IntKind) (i : Int) : aIndexAddr Try.prog 22 (.slice (some r) off len ver 1 full) (.int k i) = if 0 ≤ i ∧ i < len then some (.ptr r (off + i.toNat * 1) ver) else none := ixa_sl (by kernel_rfl) ..
@[simp] theorem ixa78 (r off ver : Nat) (k : IntKind) (i : Int) : aIndexAddr Try.prog 78 (.ptr r off ver) (.int k i) = if 0 ≤ i ∧ i < (256 : Nat) then some (.ptr r (off + i.toNat * 1) ver) else none := ixa_ar (by kernel_rfl) ..
@[simp] theorem ld3 (H : AH) (r off ver : Nat) : loadV Try.prog 3 H (.ptr r off ver) = ld H r off ver := ld_sc (by kernel_rfl) ..
@[simp] theorem ld5 (H : AH) (r off ver : Nat) : loadV Try.prog 5 H (.ptr r off ver) = ld H r off ver := ld_sc (by kernel_rfl) ..
@[simp] theorem ld4 (H : AH) (r off ver : Nat) : loadV Try.prog 4 H (.ptr r off ver) = ld H r off ver := ld_sc (by kernel_rfl) ..
@[simp] theorem cv53 (k : IntKind) (n : Int) : aConv Try.prog 5 3 (.int k n) = some (.int .i64 (IntKind.i64.wrap n)) := cv_int (by kernel_rfl) (by kernel_rfl) n
@[simp] theorem cv366 (k : IntKind) (n : Int) : aConv Try.prog 3 66 (.int k n) = some (.int .u64 (IntKind.u64.wrap n)) := cv_int (by kernel_rfl) (by kernel_rfl) n
@[simp] theorem cv365 (k : IntKind) (n : Int) : aConv Try.prog 3 65 (.int k n) = some (.int .u64 (IntKind.u64.wrap n)) := cv_int (by kernel_rfl) (by kernel_rfl) n
theorem el22 : elT Try.prog 22 = true := by kernel_rfl
@[simp] theorem row22 (H : AH) (b : Int) : rowV Try.prog 22 1 [(0, .int .i64 b)] H = some (some (.slice (some H.length) 0 1 0 1 false), H ++ [.row [.int .i64 b] 0 1 false]) := row1 el22 rfl rfl
theorem built91 (b : Int) : aBuilt Try.prog 91 [(0, .int .i64 b)] = some [.int .i64 b] := by kernel_rfl
theorem built93 : aBuilt Try.prog 93 [] = some [] := by kernel_rfl
end Go.Proofs.Ytojblooaiojmcaa
