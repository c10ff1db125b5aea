/- Joined texts: Base, Ca, Cb, Cc. -/
import Derived.Test.YtjfmiohgkcjdnaaChecked
import Derived.Test.YtjfmiohgkcjdnaaAxQ
import Derived.Test.YtjfmiohgkcjdnaaAxR
/- What is run, and what is kept between its statements. -/
namespace Go.Proofs.Ytjfmiohgkcjdnaa
open Go Go.Proofs.Ytjfmiohgkcjdnaa.AX Go.RowKit
set_option maxRecDepth 100000

def keepT (f : Nat) : List Nat :=
  bif Nat.ble f 63 then bif Nat.ble f 31 then bif Nat.ble f 15 then bif Nat.ble f 7 then bif Nat.ble f 3 then bif Nat.ble f 1 then bif Nat.ble f 0 then [] else [] else bif Nat.ble f 2 then [] else [0, 1, 2, 3, 6, 7, 8, 9, 10, 11, 12, 13, 14, 15, 16, 17, 18, 19, 20, 21, 71] else bif Nat.ble f 5 then bif Nat.ble f 4 then [0, 1, 2, 3, 4, 5, 6, 7, 8, 9, 10, 11, 12, 13, 14, 15] else [0, 1, 4, 5, 6, 7, 8, 9, 10, 11, 12, 13, 14, 15, 16] else bif Nat.ble f 6 then [0, 1, 2, 3, 8, 9, 10, 11, 12] else [0, 1, 2, 3, 4, 5, 6, 7, 8, 9, 10, 11, 12, 13, 14, 16, 17, 18, 45, 96, 97, 98, 99, 100, 104, 105, 106, 107, 115, 126, 128, 129, 130, 131, 158] else bif Nat.ble f 11 then bif Nat.ble f 9 then bif Nat.ble f 8 then [0, 1, 2, 3, 4, 5, 6, 7, 8, 9, 10, 11, 12, 13, 14, 15, 16, 17, 18, 19, 20, 21, 23, 24, 25, 26, 27, 28, 36, 104, 106, 107, 108, 129, 135, 165, 181, 182, 183, 184, 216, 261, 263, 271] else [0, 1, 2, 3, 4, 5, 6, 7, 8, 9, 10, 11, 12, 13, 14, 15, 16, 32, 69, 115, 132] else bif Nat.ble f 10 then [0, 1, 2, 4, 5, 6, 7, 8, 9, 10, 11, 12, 13, 14, 15, 16, 18, 36, 37, 38, 39, 40, 70, 86, 103] else [0, 1, 2, 3, 6, 7, 8, 9, 11, 12, 13, 14, 15, 16, 17, 38, 50, 68] else bif Nat.ble f 13 then bif Nat.ble f 12 then [0, 1, 2, 3, 4, 5, 6, 7, 8, 9, 10, 11, 31, 49] else [0, 1, 2, 3, 4, 5, 6, 7, 8, 9, 10, 11, 12, 13, 14, 19, 43, 73] else bif Nat.ble f 14 then [0, 1, 2, 3, 4, 5, 6, 7, 8, 9, 10, 27, 40, 58, 79] else [0, 1, 2, 3, 4, 5, 6, 7, 8, 9, 10, 11, 12, 13, 14, 15, 16, 17, 20, 22, 24] else bif Nat.ble f 23 then bif Nat.ble f 19 then bif Nat.ble f 17 then bif Nat.ble f 16 then [0, 1, 2, 4, 5, 6, 11] else [0, 1, 2, 4, 5, 6, 18, 20] else bif Nat.ble f 18 then [0, 1, 2, 4, 5, 6, 10, 15] else [0, 1, 2, 4, 5, 6, 18, 26, 28] else bif Nat.ble f 21 then bif Nat.ble f 20 then [0, 1, 2, 27, 32] else [0, 1, 2, 3, 15, 24] else bif Nat.ble f 22 then [0, 1, 2, 4, 5, 6, 11] else [0, 1, 2, 4, 5, 7, 15] else bif Nat.ble f 27 then bif Nat.ble f 25 then bif Nat.ble f 24 then [0, 1, 2, 4, 5, 6, 11] else [0, 1, 2, 4, 5, 7, 15] else bif Nat.ble f 26 then [0, 1, 2, 3, 4, 5, 9, 15] else [0, 1, 2, 3, 4, 5, 6, 17, 19] else bif Nat.ble f 29 then bif Nat.ble f 28 then [0, 1, 2, 3, 4, 5, 6, 7, 8, 9, 10, 11, 12, 13, 14, 15, 16, 17, 18, 19, 20, 81] else [0, 1, 2, 3, 4, 8] else bif Nat.ble f 30 then [0, 1, 2, 3, 4, 8] else [0, 1, 2, 3, 4, 8] else bif Nat.ble f 47 then bif Nat.ble f 39 then bif Nat.ble f 35 then bif Nat.ble f 33 then bif Nat.ble f 32 then [0, 1, 2, 3, 4, 8] else [0, 1, 2, 3, 4, 8] else bif Nat.ble f 34 then [0, 1, 2, 3, 4, 8] else [0, 1, 4, 5, 10, 14, 25] else bif Nat.ble f 37 then bif Nat.ble f 36 then [0, 1, 4, 5, 10, 14, 25] else [0, 1, 4, 5, 6, 7, 8, 9, 17, 22, 29] else bif Nat.ble f 38 then [0, 1, 4, 5, 6, 7, 8, 13, 23, 31] else [0, 1, 4, 5, 6, 7, 8, 9, 10, 11, 19, 26, 34] else bif Nat.ble f 43 then bif Nat.ble f 41 then bif Nat.ble f 40 then [0, 1, 4, 5, 6, 7, 8, 9, 10, 11, 16, 25, 39] else [0, 1, 4, 5, 7, 8, 17] else bif Nat.ble f 42 then [0, 1, 4, 5, 6, 7, 8, 9, 14, 19] else [0, 1, 2, 3, 8, 9, 10, 11, 19, 30, 33] else bif Nat.ble f 45 then bif Nat.ble f 44 then [0, 1, 2, 3, 8, 9, 10, 11, 12, 31, 38, 40, 48, 56] else [0, 1, 2, 4, 5] else bif Nat.ble f 46 then [0, 1, 2, 3, 4, 5, 6, 11, 12, 13, 14, 22] else [0, 2] else bif Nat.ble f 55 then bif Nat.ble f 51 then bif Nat.ble f 49 then bif Nat.ble f 48 then [0, 1, 4] else [0, 1, 4, 5, 6, 7, 12] else bif Nat.ble f 50 then [0, 1, 2, 3, 4, 6, 7, 8] else [0, 2, 3, 4, 7, 15] else bif Nat.ble f 53 then bif Nat.ble f 52 then [0, 1, 4, 5, 7, 8, 9, 16] else [0, 1, 4, 5, 7, 8, 9, 16] else bif Nat.ble f 54 then [0, 1, 2, 4] else [0, 2, 3, 9] else bif Nat.ble f 59 then bif Nat.ble f 57 then bif Nat.ble f 56 then [0] else [0] else bif Nat.ble f 58 then [0, 2] else [0, 1, 2, 4, 5, 9, 14] else bif Nat.ble f 61 then bif Nat.ble f 60 then [0, 1, 2, 4] else [0, 1, 2, 6] else bif Nat.ble f 62 then [0, 1, 2, 4] else [0, 1, 2, 4] else bif Nat.ble f 95 then bif Nat.ble f 79 then bif Nat.ble f 71 then bif Nat.ble f 67 then bif Nat.ble f 65 then bif Nat.ble f 64 then [0, 1, 2, 3, 6, 7, 8, 9, 11, 12, 13, 25] else [0, 1, 2, 4, 5, 9, 16] else bif Nat.ble f 66 then [0, 1, 2, 4] else [0, 1, 4, 14] else bif Nat.ble f 69 then bif Nat.ble f 68 then [0, 1, 2, 3, 7] else [0, 1, 2, 3, 6, 7, 8, 14, 15, 16, 22, 23, 24, 30] else bif Nat.ble f 70 then [0, 1, 2, 3, 6, 7, 8, 14, 22] else [0, 1, 2, 3, 4, 9, 10, 11] else bif Nat.ble f 75 then bif Nat.ble f 73 then bif Nat.ble f 72 then [0, 1, 2, 3, 4, 8, 14] else [0, 1, 2, 3, 4, 5, 6, 7, 16, 17, 18] else bif Nat.ble f 74 then [0, 1, 2, 3, 4, 5, 6, 12, 21] else [0, 1, 2, 3, 5, 6, 7, 8, 10, 11, 12, 13, 22, 23, 24, 28] else bif Nat.ble f 77 then bif Nat.ble f 76 then [0, 1, 2, 3, 4, 5, 6, 7, 13, 19, 27, 31] else [0, 1, 4, 5, 6, 7, 14] else bif Nat.ble f 78 then [0, 1, 2] else [0, 1, 2, 4, 5] else bif Nat.ble f 87 then bif Nat.ble f 83 then bif Nat.ble f 81 then bif Nat.ble f 80 then [0, 1, 4, 5, 7] else [0, 2, 3] else bif Nat.ble f 82 then [0, 1, 2] else [0, 2, 3, 4, 5, 8, 13, 25, 32, 44] else bif Nat.ble f 85 then bif Nat.ble f 84 then [0, 1, 2, 4] else [0, 1, 2, 3, 6, 8] else bif Nat.ble f 86 then [0, 1, 4] else [0, 1, 2, 5] else bif Nat.ble f 91 then bif Nat.ble f 89 then bif Nat.ble f 88 then [0, 1, 4, 5, 6, 11, 12, 13, 16, 19] else [0, 1, 2] else bif Nat.ble f 90 then [0, 2] else [0, 2] else bif Nat.ble f 93 then bif Nat.ble f 92 then [0, 1, 4, 5, 6, 7, 8, 14] else [0, 1, 2, 3, 4, 10, 11, 12, 13, 14, 15, 16, 17, 18, 19, 20, 25, 32, 39, 56, 75, 80, 97, 125] else bif Nat.ble f 94 then [0, 2] else [0, 2] else bif Nat.ble f 111 then bif Nat.ble f 103 then bif Nat.ble f 99 then bif Nat.ble f 97 then bif Nat.ble f 96 then [0, 1, 3, 8, 18] else [0, 1, 2, 4, 5, 6, 7] else bif Nat.ble f 98 then [0, 1, 2, 3, 8, 9, 10, 11, 12, 13, 14, 15, 16, 17, 18, 23, 29, 35, 50, 68, 72, 87, 113] else [0, 1, 2, 3, 8, 9, 14, 34] else bif Nat.ble f 101 then bif Nat.ble f 100 then [0, 1, 2, 3, 8, 9, 10, 11, 12, 21, 33] else [0, 1, 2, 8, 9, 10, 11, 12, 17, 35, 45] else bif Nat.ble f 102 then [0, 1, 2, 3, 8, 9, 10, 11, 12, 13, 14, 34, 36, 55, 57, 60] else [0, 1, 2, 8, 9, 15] else bif Nat.ble f 107 then bif Nat.ble f 105 then bif Nat.ble f 104 then [0, 1, 2, 3, 8, 9, 10, 11, 12, 16, 36, 41, 45, 65, 69, 84, 104, 109, 124] else [0, 1, 2, 3, 4, 10, 11, 12, 47, 65, 70] else bif Nat.ble f 106 then [0, 1, 2, 3, 4, 10, 11, 12, 13, 47, 66, 71, 120, 139, 144] else [0, 2, 4, 8] else bif Nat.ble f 109 then bif Nat.ble f 108 then [0, 2, 4, 8, 14] else [0, 1, 2, 6, 7, 12, 30] else bif Nat.ble f 110 then [0, 1, 2, 6, 7, 8, 9, 10, 19, 30] else [0, 1, 2, 6, 7, 8, 9, 10, 15, 33, 43] else bif Nat.ble f 119 then bif Nat.ble f 115 then bif Nat.ble f 113 then bif Nat.ble f 112 then [0, 1, 2, 6, 7, 8, 9, 10, 11, 12, 32, 34, 49, 51, 54] else [0, 1, 2, 6, 7, 13] else bif Nat.ble f 114 then [0, 1, 2, 6, 7, 8, 9, 10, 14, 32, 37, 41, 61, 65, 78, 98, 103, 116] else [0, 1, 4] else bif Nat.ble f 117 then bif Nat.ble f 116 then [0, 1, 2, 3, 8, 9, 10, 43, 59, 64] else [0, 1, 2, 3, 8, 9, 10, 11, 43, 60, 65, 112, 129, 134] else bif Nat.ble f 118 then [0, 1, 2, 3, 4, 10, 11, 18, 40, 58] else [0, 2] else bif Nat.ble f 123 then bif Nat.ble f 121 then bif Nat.ble f 120 then [0, 2] else [0, 1, 2, 3, 8] else bif Nat.ble f 122 then [0, 1, 2, 3, 4, 5, 12] else [0, 1, 2, 3, 8, 9, 16, 36, 52] else bif Nat.ble f 125 then bif Nat.ble f 124 then [0, 1, 2, 6] else [0, 1, 2, 3, 4, 10] else [0, 1, 2, 3, 4, 10, 11, 22]

def goodT (f : Nat) : Bool := Nat.ble 3 f && Nat.ble f 126 && !(Nat.beq f 11)

noncomputable def cx : Cx Try.prog where
  good := goodT
  keep := keepT
  ext _ _ _ := none

theorem okAll : (List.range 127).all (fun f => !(Nat.ble 3 f) || okFn Try.prog f) = true := by kernel_rfl
theorem okFn_low {f : Nat} (h3 : 3 ≤ f) (h : f ≤ 126) : okFn Try.prog f = true := by
  have := (List.all_eq_true.1 okAll) f (List.mem_range.2 (by omega))
  have h1 : Nat.ble 3 f = true := Nat.ble_eq_true_of_le h3
  simpa [h1] using this

theorem goodAll : (List.range 127).all (fun f => !goodT f || fnOrd Try.prog f) = true := by kernel_rfl

theorem cx_ok : cx.Ok where
  mixed := by kernel_rfl
  ord f h := by
    have hlt : f < 127 := by
      have h1 : Nat.ble f 126 = true := by
        simp only [cx, goodT, Bool.and_eq_true] at h
        exact h.1.2
      exact Nat.lt_succ_of_le (Nat.le_of_ble_eq_true h1)
    have := (List.all_eq_true.1 goodAll) f (List.mem_range.2 hlt)
    have hg : goodT f = true := h
    rw [hg] at this
    simpa using this
  ext f args H v H' h := by cases h
theorem mixed : Try.prog.follows .mixedOrders = true := by kernel_rfl
end Go.Proofs.Ytjfmiohgkcjdnaa

/- What the steps ask of the types of this program. -/
namespace Go.Proofs.Ytjfmiohgkcjdnaa
open Go Go.Proofs.Ytjfmiohgkcjdnaa.AX
@[simp] theorem len36 (r : Option Nat) (off len ver sz : Nat) (full : Bool) : aLen Try.prog 36 (.slice r off len ver sz full) = some (.int .i64 len) := len_sl (n := 1) (by kernel_rfl) ..
@[simp] theorem ixa36 (r off len ver : Nat) (full : Bool) (k : IntKind) (i : Int) : aIndexAddr Try.prog 36 (.slice (some r) off len ver 1 full) (.int k i) = if 0 ≤ i ∧ i < len then some (.ptr r (off + i.toNat * 1) ver) else none := ixa_sl (by kernel_rfl) ..
@[simp] theorem ld3 (H : AH) (r off ver : Nat) : loadV Try.prog 3 H (.ptr r off ver) = ld H r off ver := ld_sc (by kernel_rfl) ..
@[simp] theorem ld4 (H : AH) (r off ver : Nat) : loadV Try.prog 4 H (.ptr r off ver) = ld H r off ver := ld_sc (by kernel_rfl) ..
@[simp] theorem ld5 (H : AH) (r off ver : Nat) : loadV Try.prog 5 H (.ptr r off ver) = ld H r off ver := ld_sc (by kernel_rfl) ..
@[simp] theorem ld36 (H : AH) (r off ver : Nat) : loadV Try.prog 36 H (.ptr r off ver) = ld H r off ver := ld_sc (by kernel_rfl) ..
theorem ag23 : aggSz Try.prog 23 = some 3 := by kernel_rfl
theorem ag24 : aggSz Try.prog 24 = some 3 := by kernel_rfl
theorem ag52 : aggSz Try.prog 52 = some 3 := by kernel_rfl
@[simp] theorem ld23 (H : AH) (r off ver : Nat) : loadV Try.prog 23 H (.ptr r off ver) = (ldn H r ver 3 off).map .agg := load_agg ag23 ..
@[simp] theorem ld24 (H : AH) (r off ver : Nat) : loadV Try.prog 24 H (.ptr r off ver) = (ldn H r ver 3 off).map .agg := load_agg ag24 ..
@[simp] theorem ld52 (H : AH) (r off ver : Nat) : loadV Try.prog 52 H (.ptr r off ver) = (ldn H r ver 3 off).map .agg := load_agg ag52 ..
@[simp] theorem fa230 (r off ver : Nat) : aFieldAddr Try.prog 23 (.ptr r off ver) 0 = some (.ptr r (off + 0) ver) := fld_ptr (by kernel_rfl) ..
@[simp] theorem fa231 (r off ver : Nat) : aFieldAddr Try.prog 23 (.ptr r off ver) 1 = some (.ptr r (off + 1) ver) := fld_ptr (by kernel_rfl) ..
@[simp] theorem fa232 (r off ver : Nat) : aFieldAddr Try.prog 23 (.ptr r off ver) 2 = some (.ptr r (off + 2) ver) := fld_ptr (by kernel_rfl) ..
@[simp] theorem fa240 (r off ver : Nat) : aFieldAddr Try.prog 24 (.ptr r off ver) 0 = some (.ptr r (off + 0) ver) := fld_ptr (by kernel_rfl) ..
@[simp] theorem fa241 (r off ver : Nat) : aFieldAddr Try.prog 24 (.ptr r off ver) 1 = some (.ptr r (off + 1) ver) := fld_ptr (by kernel_rfl) ..
@[simp] theorem fa242 (r off ver : Nat) : aFieldAddr Try.prog 24 (.ptr r off ver) 2 = some (.ptr r (off + 2) ver) := fld_ptr (by kernel_rfl) ..
@[simp] theorem fa520 (r off ver : Nat) : aFieldAddr Try.prog 52 (.ptr r off ver) 0 = some (.ptr r (off + 0) ver) := fld_ptr (by kernel_rfl) ..
@[simp] theorem fa521 (r off ver : Nat) : aFieldAddr Try.prog 52 (.ptr r off ver) 1 = some (.ptr r (off + 1) ver) := fld_ptr (by kernel_rfl) ..
@[simp] theorem fa522 (r off ver : Nat) : aFieldAddr Try.prog 52 (.ptr r off ver) 2 = some (.ptr r (off + 2) ver) := fld_ptr (by kernel_rfl) ..
theorem sc3 : scal Try.prog 3 = true := by kernel_rfl
theorem sc4 : scal Try.prog 4 = true := by kernel_rfl
theorem sc36 : scal Try.prog 36 = true := by kernel_rfl
theorem el36 : elT Try.prog 36 = true := by kernel_rfl
theorem elz36 : elZ Try.prog 36 = some (.int .i64 0) := by kernel_rfl
theorem slz36 : slSz Try.prog 36 = some 1 := by kernel_rfl
theorem zt3 : zeroT Try.prog 3 = some [.int .i64 0] := by kernel_rfl
theorem zt23 : zeroT Try.prog 23 = some [.int .i64 0, .int .i64 0, .int .i64 0] := by kernel_rfl
theorem zt24 : zeroT Try.prog 24 = some [.int .i64 0, .int .i64 0, .int .i64 0] := by kernel_rfl
theorem mt93 : mapT Try.prog 93 = some (.int .i64, .bool false) := by kernel_rfl
@[simp] theorem row36 (H : AH) (b : Int) : rowV Try.prog 36 1 [(0, .int .i64 b)] H = some (some (.slice (some H.length) 0 1 0 1 false), H ++ [.row [.int .i64 b] 0 1 false]) := row1 el36 rfl rfl
@[simp] theorem built23 (a b c : Int) : aBuilt Try.prog 23 [(0, .int .i64 a), (1, .int .i64 b), (2, .int .i64 c)] = some [.int .i64 a, .int .i64 b, .int .i64 c] := by kernel_rfl
@[simp] theorem built23_1 (a : Int) : aBuilt Try.prog 23 [(0, .int .i64 a)] = some [.int .i64 a, .int .i64 0, .int .i64 0] := by kernel_rfl
@[simp] theorem built23_0 : aBuilt Try.prog 23 [] = some [.int .i64 0, .int .i64 0, .int .i64 0] := by kernel_rfl
@[simp] theorem built24 (a b : Int) : aBuilt Try.prog 24 [(0, .int .i64 a), (1, .int .i64 b)] = some [.int .i64 a, .int .i64 b, .int .i64 0] := by kernel_rfl
@[simp] theorem cv53 (k : IntKind) (n : Int) : aConv Try.prog 5 3 (.int k n) = some (.int .i64 (IntKind.i64.wrap n)) := cv_int (by kernel_rfl) (by kernel_rfl) n
theorem get_set {H : AH} {r : Nat} {o o' : AObj} (h : H[r]? = some o) : (H.set r o')[r]? = some o' := by
  have := (List.getElem?_eq_some_iff.1 h).1
  simp [this]
theorem set_ne {H : AH} {i j : Nat} {o : AObj} (h : i ≠ j) : (H.set i o)[j]? = H[j]? := List.getElem?_set_ne h

/-! ### Wrappers -/
def WV (m s t : Int) : AV := .agg [.int .i64 m, .int .i64 s, .int .i64 t]
/-- A wrapper in row p. -/
structure Bx (H : AH) (p : Nat) (m s t : Int) : Prop where
  l0 : ld H p 0 0 = some (.int .i64 m)
  l1 : ld H p 1 0 = some (.int .i64 s)
  l2 : ld H p 2 0 = some (.int .i64 t)
  la : ldn H p 0 3 0 = some [.int .i64 m, .int .i64 s, .int .i64 t]
theorem Bx.ext {H H1 : AH} {p : Nat} {m s t : Int} (h : Bx H p m s t) (hE : Ext H H1) : Bx H1 p m s t := ⟨hE.ld h.l0, hE.ld h.l1, hE.ld h.l2, ldn_ext hE h.la⟩
theorem Bx.row {H : AH} {p st : Nat} {m s t : Int} {ro : Bool} (h : H[p]? = some (.row [.int .i64 m, .int .i64 s, .int .i64 t] 0 st ro)) : Bx H p m s t := by
  refine ⟨?_, ?_, ?_, ?_⟩
  · rw [ld_row h]; rfl
  · rw [ld_row h]; rfl
  · rw [ld_row h]; rfl
  · rw [ldn_row h]; rfl
theorem box3 (H : AH) (m s t : Int) : ∃ H1, H ++ [AObj.row [.int .i64 m, .int .i64 s, .int .i64 t] 0 0 false] = H1 ∧ Ext H H1 ∧ H.length < H1.length ∧ H1[H.length]? = some (.row [.int .i64 m, .int .i64 s, .int .i64 t] 0 0 false) ∧ Bx H1 H.length m s t :=
  ⟨_, rfl, .push _ _, by simp, by simp, Bx.row (st := 0) (ro := false) (by simp)⟩

theorem mark_ac0 (m s k : Nat) (t : Int) (hm : 0 < m) (hk : k * s ≤ 1000000) (H : AH) (Q : AV → AH → Prop) (h : ∀ H', Ext H H' → Q (.int .i64 (k * s % m : Nat)) H') : AC Try.prog 60 [WV m s t, .int .i64 k] H Q := by
  refine L_body 12 Try.func60 rfl rfl ?_
  refine L_reg [1, 2] (fun K hK => ?_)
  simp [AV.isU, acells, WV]
  apply hK; clear hK K
  obtain ⟨H1, e, hE, -, -, b⟩ := box3 H m s t
  rw [e]
  have hne : m ≠ 0 := by omega
  have hw : IntKind.i64.wrap ((k : Int) * s) = ((k * s : Nat) : Int) := by rw [wrap_i64] <;> push_cast <;> omega
  refine L_reg [4] (fun K hK => ?_)
  simp [b.l0, b.l1, hne, hw]
  apply hK; clear hK K
  have e2 : ((k : Int) * s).tmod m = ((k * s % m : Nat) : Int) := by rw [Int.tmod_eq_emod_of_nonneg (by omega)]; rfl
  have h2 := h _ hE
  rw [← e2] at h2
  exact L_ret ⟨.inr rfl, _, rfl, h2⟩
theorem mark_ac (m s k : Nat) (t : Int) (hm : 0 < m) (hk : k * s ≤ 1000000) (H : AH) (Q : AV → AH → Prop) (h : Q (.int .i64 (k * s % m : Nat)) H) : AC Try.prog 60 [WV m s t, .int .i64 k] H Q :=
  AC.quiet (belB_int _ _ _ _) (fun Q h => mark_ac0 m s k t hm hk H Q h) Q h
end Go.Proofs.Ytjfmiohgkcjdnaa

/- Quotients, and how many turns begin at different marks. -/
namespace Go.Proofs.Ytjfmiohgkcjdnaa
open Go Go.Proofs.Ytjfmiohgkcjdnaa.AX

/-- The quotients of a by b, and so on. -/
def quos (a b : Nat) : List Int := if _h : b = 0 then [] else ((a / b : Nat) : Int) :: quos b (a % b)
termination_by b
decreasing_by exact Nat.mod_lt _ (Nat.pos_of_ne_zero _h)
theorem quos_zero (a : Nat) : quos a 0 = [] := by rw [quos]; rfl
theorem quos_pos (a : Nat) {b : Nat} (h : b ≠ 0) : quos a b = ((a / b : Nat) : Int) :: quos b (a % b) := by rw [quos]; simp [h]
set_option maxRecDepth 100000 in
theorem chain_ac0 (a b : Nat) (ha : a ≤ 1000) (hb : b ≤ 1000) (H : AH) (Q : AV → AH → Prop) (h : ∀ v H', OwnF H.length H' v ((quos a b).map (.int .i64)) → Ext H H' → Q (.tuple [v, .int .i64 (Nat.gcd a b : Nat)]) H') : AC Try.prog 80 [.int .i64 a, .int .i64 b] H Q := by
  refine L_body 20 Try.func80 rfl rfl ?_
  refine L_reg [0, 1, 4] (fun K hK => ?_)
  simp
  apply hK; clear hK K
  refine L_block (L_loopV [0, 1, 4] (fun k vs H' => ∃ (x y : Nat) (v : AV) (d : List Int), k = y ∧ x ≤ 1000 ∧ y ≤ 1000 ∧ d.length + y ≤ 1000 ∧ d ++ quos x y = quos a b ∧ Nat.gcd x y = Nat.gcd a b ∧ vs = [.int .i64 x, .int .i64 y, v] ∧ OwnF H.length H' v (d.map (.int .i64)) ∧ Ext H H') _ [.int .i64 a, .int .i64 b, .slice none 0 0 0 1 false] rfl ⟨a, b, _, [], rfl, ha, hb, by simpa using hb, rfl, rfl, rfl, .nil _ _, .refl _⟩ ?_)
  rintro k _ H1 ⟨x, y, v, d, rfl, hx, hy, hd, hq, hg, rfl, hO, hE⟩
  refine L_reg [0, 1, 4, 7] (fun K hK => ?_)
  simp
  apply hK; clear hK K
  by_cases hy0 : k = 0
  · subst hy0
    refine L_false (by simp) (L_exit ?_)
    refine L_reg [4, 5] (fun K hK => ?_)
    simp
    apply hK; clear hK K
    have hq' : d = quos a b := by rw [← hq, quos_zero]; simp
    have h2 := h v H1 (by rw [← hq']; exact hO) hE
    rw [← hg, Nat.gcd_zero_right] at h2
    exact L_ret ⟨.inr rfl, _, rfl, h2⟩
  · refine L_true (by simp [hy0]) ?_
    refine L_block ?_
    have hq2 := quos_pos x hy0
    have hg2 : Nat.gcd k (x % k) = Nat.gcd x k := by rw [Nat.gcd_comm x k, Nat.gcd_rec k x, Nat.gcd_comm]
    have hdiv : ((x : Int)).tdiv k = ((x / k : Nat) : Int) := by rw [Int.tdiv_eq_ediv_of_nonneg (by omega)]; rfl
    have hmod : ((x : Int)).tmod k = ((x % k : Nat) : Int) := by rw [Int.tmod_eq_emod_of_nonneg (by omega)]; rfl
    have hq0 : x / k ≤ x := Nat.div_le_self _ _
    have hr0 : x % k < k := Nat.mod_lt _ (by omega)
    generalize x / k = q at hq2 hdiv hq0
    generalize x % k = r at hq2 hg2 hmod hr0
    obtain ⟨v', H', he, hO', hE'⟩ := ownF_append hE el36 el36 (x := .int .i64 (q : Int)) (m := 1) hO rfl (by simp; omega)
    refine L_reg [0, 1, 4] (fun K hK => ?_)
    simp [hy0, hdiv, wrap_i64 (a := (q : Int)) (by omega), he]
    apply hK; clear hK K
    refine L_regT mixed [0, 1, 4] (by kernel_rfl) (fun K hK => ?_)
    simp [hy0, hmod]
    apply hK; clear hK K
    refine ⟨r, _, by omega, by simp, k, r, v', d ++ [(q : Int)], rfl, hy, by omega, by simp; omega, ?_, ?_, rfl, by simpa using hO', hE'⟩
    · rw [List.append_assoc, ← hq, hq2]; rfl
    · rw [← hg, hg2]
/-- How many turns begin at different marks. -/
def per (m s : Nat) : Nat := m / Nat.gcd m s
theorem per_pos {m s : Nat} (hm : 0 < m) : 0 < per m s := Nat.div_pos (Nat.le_of_dvd hm (Nat.gcd_dvd_left m s)) (Nat.gcd_pos_of_pos_left _ hm)
theorem per_le (m s : Nat) : per m s ≤ m := Nat.div_le_self _ _
theorem differ_ac0 (m s : Nat) (t : Int) (hm : 0 < m) (hm2 : m ≤ 1000) (hs : s ≤ 1000) (H : AH) (Q : AV → AH → Prop) (h : ∀ H', Ext H H' → Q (.int .i64 (per m s : Nat)) H') : AC Try.prog 66 [WV m s t] H Q := by
  refine L_body 17 Try.func66 rfl rfl ?_
  refine L_reg [1, 2] (fun K hK => ?_)
  simp [AV.isU, acells, WV]
  apply hK; clear hK K
  obtain ⟨H1, e, hE, -, -, b⟩ := box3 H m s t
  rw [e]
  refine L_reg [1, 4] (fun K hK => ?_)
  simp [okFn_low, b.l0, b.l1]
  refine chain_ac0 m s hm2 hs _ _ (fun v H2 hv hE2 => ?_)
  simp
  apply hK; clear hK K
  have b2 := b.ext hE2
  have hg : Nat.gcd m s ≠ 0 := by have := Nat.gcd_pos_of_pos_left s hm; omega
  have hg0 : (Nat.gcd m s : Int) ≠ 0 := by omega
  have hdiv : ((m : Int)).tdiv (Nat.gcd m s : Int) = ((per m s : Nat) : Int) := by rw [Int.tdiv_eq_ediv_of_nonneg (by omega)]; rfl
  have := per_le m s
  refine L_reg [2] (fun K hK => ?_)
  simp [b2.l0, hg, hdiv, wrap_i64 (a := ((per m s : Nat) : Int)) (by omega)]
  apply hK; clear hK K
  exact L_ret ⟨.inr rfl, _, rfl, h _ (hE.trans hE2)⟩
theorem differ_ac (m s : Nat) (t : Int) (hm : 0 < m) (hm2 : m ≤ 1000) (hs : s ≤ 1000) (H : AH) (Q : AV → AH → Prop) (h : Q (.int .i64 (per m s : Nat)) H) : AC Try.prog 66 [WV m s t] H Q :=
  AC.quiet (belB_int _ _ _ _) (fun Q h => differ_ac0 m s t hm hm2 hs H Q h) Q h
end Go.Proofs.Ytjfmiohgkcjdnaa

/- Wrappers are checked; turns and marks. -/
namespace Go.Proofs.Ytjfmiohgkcjdnaa
open Go Go.Proofs.Ytjfmiohgkcjdnaa.AX

def checkE (m s t : Int) : Int := if m < 1 ∨ 100 < m ∨ s < 0 ∨ m ≤ s ∨ t < 1 then 1 else if (per m.toNat s.toNat : Int) < t then 3 else 0
theorem checkE_zero {m s t : Int} (h : checkE m s t = 0) : ∃ m' s' t' : Nat, m = m' ∧ s = s' ∧ t = t' ∧ 1 ≤ m' ∧ m' ≤ 100 ∧ s' < m' ∧ 1 ≤ t' ∧ t' ≤ per m' s' := by
  unfold checkE at h
  split at h
  · cases h
  · split at h
    · cases h
    · exact ⟨m.toNat, s.toNat, t.toNat, by omega, by omega, by omega, by omega, by omega, by omega, by omega, by omega⟩
theorem checkE_ok {m s t : Nat} (h1 : 1 ≤ m) (h2 : m ≤ 100) (h3 : s < m) (h4 : 1 ≤ t) (h5 : t ≤ per m s) : checkE m s t = 0 := by
  unfold checkE
  rw [if_neg (by omega), if_neg (by simp; omega)]
set_option maxRecDepth 100000 in
theorem Check_ac0 (m s t : Int) (H : AH) (Q : AV → AH → Prop) (h : ∀ H', Ext H H' → Q (.int .i64 (checkE m s t)) H') : AC Try.prog 20 [WV m s t] H Q := by
  refine L_body 33 Try.func20 rfl rfl ?_
  refine L_reg [1, 2] (fun K hK => ?_)
  simp [AV.isU, acells, WV]
  apply hK; clear hK K
  obtain ⟨H1, e, hE, -, -, b⟩ := box3 H m s t
  rw [e]
  by_cases h1 : m < 1
  · refine L_reg [1, 27] (fun K hK => ?_)
    simp [b.l0, pickV, h1]
    apply hK; clear hK K
    refine L_true (by simp) ?_
    refine L_reg [2] (fun K hK => ?_)
    simp
    apply hK; clear hK K
    exact L_ret ⟨.inr rfl, _, rfl, by simpa [checkE, h1] using h _ hE⟩
  by_cases h2 : 100 < m
  · refine L_reg [1, 27] (fun K hK => ?_)
    simp [b.l0, pickV, h1, h2]
    apply hK; clear hK K
    refine L_true (by simp) ?_
    refine L_reg [2] (fun K hK => ?_)
    simp
    apply hK; clear hK K
    exact L_ret ⟨.inr rfl, _, rfl, by simpa [checkE, h1, h2] using h _ hE⟩
  by_cases h3 : s < 0
  · refine L_reg [1, 27] (fun K hK => ?_)
    simp [b.l0, b.l1, pickV, h1, h2, h3]
    apply hK; clear hK K
    refine L_true (by simp) ?_
    refine L_reg [2] (fun K hK => ?_)
    simp
    apply hK; clear hK K
    exact L_ret ⟨.inr rfl, _, rfl, by simpa [checkE, h1, h2, h3] using h _ hE⟩
  by_cases h4 : m ≤ s
  · refine L_reg [1, 27] (fun K hK => ?_)
    simp [b.l0, b.l1, pickV, h1, h2, h3, h4]
    apply hK; clear hK K
    refine L_true (by simp) ?_
    refine L_reg [2] (fun K hK => ?_)
    simp
    apply hK; clear hK K
    exact L_ret ⟨.inr rfl, _, rfl, by simpa [checkE, h1, h2, h3, h4] using h _ hE⟩
  by_cases h5 : t < 1
  · refine L_reg [1, 27] (fun K hK => ?_)
    simp [b.l0, b.l1, b.l2, pickV, h1, h2, h3, h4, h5]
    apply hK; clear hK K
    refine L_true (by simp) ?_
    refine L_reg [2] (fun K hK => ?_)
    simp
    apply hK; clear hK K
    exact L_ret ⟨.inr rfl, _, rfl, by simpa [checkE, h1, h2, h3, h4, h5] using h _ hE⟩
  obtain ⟨m, rfl⟩ : ∃ k : Nat, m = k := ⟨m.toNat, by omega⟩
  obtain ⟨s, rfl⟩ : ∃ k : Nat, s = k := ⟨s.toNat, by omega⟩
  refine L_reg [1, 27] (fun K hK => ?_)
  simp [b.l0, b.l1, b.l2, pickV, h1, h2, h3, h4, h5]
  apply hK; clear hK K
  refine L_false (by simp) ?_
  refine L_regQ mixed [32] (by kernel_rfl) (fun K hK => ?_)
  simp [okFn_low, b.l2, b.la]
  refine exQ_mk (fun Q hQ => differ_ac m s t (by omega) (by omega) (by omega) H1 Q hQ) ?_
  simp
  apply hK; clear hK K
  refine L_dec ((per m s : Int) < t) (by simp) (fun h6 => ?_) (fun h6 => ?_)
  · refine L_reg [2] (fun K hK => ?_)
    simp
    apply hK; clear hK K
    exact L_ret ⟨.inr rfl, _, rfl, by simpa [checkE, h1, h2, h3, h4, h5, h6] using h _ hE⟩
  · refine L_reg [2] (fun K hK => ?_)
    simp
    apply hK; clear hK K
    exact L_ret ⟨.inr rfl, _, rfl, by simpa [checkE, h1, h2, h3, h4, h5, h6] using h _ hE⟩
theorem Check_ac (m s t : Int) (H : AH) (Q : AV → AH → Prop) (h : Q (.int .i64 (checkE m s t)) H) : AC Try.prog 20 [WV m s t] H Q :=
  AC.quiet (belB_int _ _ _ _) (fun Q h => Check_ac0 m s t H Q h) Q h
theorem isTurn_ac0 (m s t k : Int) (H : AH) (Q : AV → AH → Prop) (h : ∀ H', Ext H H' → Q (.bool (decide (0 ≤ k ∧ k < t))) H') : AC Try.prog 84 [WV m s t, .int .i64 k] H Q := by
  refine L_body 13 Try.func84 rfl rfl ?_
  refine L_reg [1, 2] (fun K hK => ?_)
  simp [AV.isU, acells, WV]
  apply hK; clear hK K
  obtain ⟨H1, e, hE, -, -, b⟩ := box3 H m s t
  rw [e]
  by_cases h1 : 0 ≤ k
  · refine L_reg [4] (fun K hK => ?_)
    simp [b.l2, pickV, h1]
    apply hK; clear hK K
    exact L_ret ⟨.inr rfl, _, rfl, by simpa [h1] using h _ hE⟩
  · refine L_reg [4] (fun K hK => ?_)
    simp [pickV, h1]
    apply hK; clear hK K
    exact L_ret ⟨.inr rfl, _, rfl, by simpa [h1] using h _ hE⟩
theorem isTurn_ac (m s t k : Int) (H : AH) (Q : AV → AH → Prop) (h : Q (.bool (decide (0 ≤ k ∧ k < t))) H) : AC Try.prog 84 [WV m s t, .int .i64 k] H Q :=
  AC.quiet (belB_bool _ _ _) (fun Q h => isTurn_ac0 m s t k H Q h) Q h
theorem isMark_ac0 (m s t k : Int) (H : AH) (Q : AV → AH → Prop) (h : ∀ H', Ext H H' → Q (.bool (decide (0 ≤ k ∧ k < m))) H') : AC Try.prog 63 [WV m s t, .int .i64 k] H Q := by
  refine L_body 13 Try.func63 rfl rfl ?_
  refine L_reg [1, 2] (fun K hK => ?_)
  simp [AV.isU, acells, WV]
  apply hK; clear hK K
  obtain ⟨H1, e, hE, -, -, b⟩ := box3 H m s t
  rw [e]
  by_cases h1 : 0 ≤ k
  · refine L_reg [4] (fun K hK => ?_)
    simp [b.l0, pickV, h1]
    apply hK; clear hK K
    exact L_ret ⟨.inr rfl, _, rfl, by simpa [h1] using h _ hE⟩
  · refine L_reg [4] (fun K hK => ?_)
    simp [pickV, h1]
    apply hK; clear hK K
    exact L_ret ⟨.inr rfl, _, rfl, by simpa [h1] using h _ hE⟩
theorem isMark_ac (m s t k : Int) (H : AH) (Q : AV → AH → Prop) (h : Q (.bool (decide (0 ≤ k ∧ k < m))) H) : AC Try.prog 63 [WV m s t, .int .i64 k] H Q :=
  AC.quiet (belB_bool _ _ _) (fun Q h => isMark_ac0 m s t k H Q h) Q h
def turnE (m s t k : Int) : Int := if checkE m s t = 0 then (if 0 ≤ k ∧ k < t then 0 else 2) else checkE m s t
theorem checkTurn_ac0 (m s t k : Int) (H : AH) (Q : AV → AH → Prop) (h : ∀ H', Ext H H' → Q (.int .i64 (turnE m s t k)) H') : AC Try.prog 59 [WV m s t, .int .i64 k] H Q := by
  refine L_body 15 Try.func59 rfl rfl ?_
  refine L_reg [1, 2] (fun K hK => ?_)
  simp [AV.isU, acells, WV]
  apply hK; clear hK K
  obtain ⟨H1, e, hE, -, -, b⟩ := box3 H m s t
  rw [e]
  refine L_reg [1, 2, 5] (fun K hK => ?_)
  simp [okFn_low, b.la]
  refine Check_ac m s t _ _ ?_
  simp
  apply hK; clear hK K
  refine L_reg [1, 2, 5, 9] (fun K hK => ?_)
  simp
  apply hK; clear hK K
  by_cases h0 : checkE m s t = 0
  · refine L_false (by simp [h0]) ?_
    refine L_reg [14] (fun K hK => ?_)
    simp [okFn_low, b.la]
    refine isTurn_ac m s t k _ _ ?_
    simp
    apply hK; clear hK K
    by_cases h1 : 0 ≤ k ∧ k < t
    · refine L_false (by simp [h1]) ?_
      refine L_reg [4] (fun K hK => ?_)
      simp
      apply hK; clear hK K
      exact L_ret ⟨.inr rfl, _, rfl, by simpa [turnE, h0, h1] using h _ hE⟩
    · refine L_true (by simp; omega) ?_
      refine L_reg [4] (fun K hK => ?_)
      simp
      apply hK; clear hK K
      exact L_ret ⟨.inr rfl, _, rfl, by simpa [turnE, h0, h1] using h _ hE⟩
  · refine L_true (by simp [h0]) ?_
    refine L_reg [4] (fun K hK => ?_)
    simp
    apply hK; clear hK K
    exact L_ret ⟨.inr rfl, _, rfl, by simpa [turnE, h0] using h _ hE⟩
theorem checkTurn_ac (m s t k : Int) (H : AH) (Q : AV → AH → Prop) (h : Q (.int .i64 (turnE m s t k)) H) : AC Try.prog 59 [WV m s t, .int .i64 k] H Q :=
  AC.quiet (belB_int _ _ _ _) (fun Q h => checkTurn_ac0 m s t k H Q h) Q h
end Go.Proofs.Ytjfmiohgkcjdnaa

/- The mark of a turn; the first turn at some marks. -/
namespace Go.Proofs.Ytjfmiohgkcjdnaa
open Go Go.Proofs.Ytjfmiohgkcjdnaa.AX

theorem turnE_zero {m s t k : Int} (h : turnE m s t k = 0) : ∃ m' s' t' k' : Nat, m = m' ∧ s = s' ∧ t = t' ∧ k = k' ∧ 1 ≤ m' ∧ m' ≤ 100 ∧ s' < m' ∧ 1 ≤ t' ∧ t' ≤ per m' s' ∧ k' < t' := by
  unfold turnE at h
  by_cases h0 : checkE m s t = 0
  · rw [if_pos h0] at h
    obtain ⟨m', s', t', rfl, rfl, rfl, a1, a2, a3, a4, a5⟩ := checkE_zero h0
    split at h
    · exact ⟨m', s', t', k.toNat, rfl, rfl, rfl, by omega, a1, a2, a3, a4, a5, by omega⟩
    · cases h
  · rw [if_neg h0] at h; exact absurd h h0
/-- The mark of a turn, with its error. -/
def markS (m s t k : Int) : Int × Int := if turnE m s t k = 0 then (((k.toNat * s.toNat % m.toNat : Nat) : Int), 0) else (0, turnE m s t k)
theorem bound {m s t k : Nat} (h2 : m ≤ 100) (h3 : s < m) (h5 : t ≤ per m s) (h6 : k ≤ t) : k * s ≤ 10000 := by
  have h7 := per_le m s
  calc k * s ≤ 100 * 100 := Nat.mul_le_mul (by omega) (by omega)
    _ ≤ 10000 := by decide
theorem Mark_ac0 (m s t k : Int) (H : AH) (Q : AV → AH → Prop) (h : ∀ H', Ext H H' → Q (.tuple [.int .i64 (markS m s t k).1, .int .i64 (markS m s t k).2]) H') : AC Try.prog 16 [WV m s t, .int .i64 k] H Q := by
  refine L_body 16 Try.func16 rfl rfl ?_
  refine L_reg [1, 2] (fun K hK => ?_)
  simp [AV.isU, acells, WV]
  apply hK; clear hK K
  obtain ⟨H1, e, hE, -, -, b⟩ := box3 H m s t
  rw [e]
  refine L_reg [1, 2, 6] (fun K hK => ?_)
  simp [okFn_low, b.la]
  refine checkTurn_ac m s t k _ _ ?_
  simp
  apply hK; clear hK K
  refine L_reg [1, 2, 6, 11] (fun K hK => ?_)
  simp
  apply hK; clear hK K
  by_cases h0 : turnE m s t k = 0
  · refine L_false (by simp [h0]) ?_
    obtain ⟨m, s, t, k, rfl, rfl, rfl, rfl, a1, a2, a3, a4, a5, a6⟩ := turnE_zero h0
    have := bound a2 a3 a5 (Nat.le_of_lt a6)
    refine L_reg [4, 5] (fun K hK => ?_)
    simp [okFn_low, b.la]
    refine mark_ac m s k t (by omega) (by omega) _ _ ?_
    simp
    apply hK; clear hK K
    exact L_ret ⟨.inr rfl, _, rfl, by simpa [markS, h0] using h _ hE⟩
  · refine L_true (by simp [h0]) ?_
    refine L_reg [4, 5] (fun K hK => ?_)
    simp
    apply hK; clear hK K
    exact L_ret ⟨.inr rfl, _, rfl, by simpa [markS, h0] using h _ hE⟩
theorem Mark_ac (m s t k : Int) (H : AH) (Q : AV → AH → Prop) (h : Q (.tuple [.int .i64 (markS m s t k).1, .int .i64 (markS m s t k).2]) H) : AC Try.prog 16 [WV m s t, .int .i64 k] H Q :=
  AC.quiet (by simp [belB]) (fun Q h => Mark_ac0 m s t k H Q h) Q h

/-- The first of the turns below t, from turn k on, at a mark from low to high. -/
def firstS (m s : Nat) (low high : Int) : Nat → Nat → Int × Int
  | 0, _ => (0, 12)
  | n + 1, k => if low ≤ ((k * s % m : Nat) : Int) ∧ ((k * s % m : Nat) : Int) ≤ high then ((k : Int), 0) else firstS m s low high n (k + 1)
set_option maxRecDepth 100000 in
theorem first_ac0 (m s t : Nat) (low high : Int) (h1 : 1 ≤ m) (h2 : m ≤ 100) (h3 : s < m) (h5 : t ≤ per m s) (H : AH) (Q : AV → AH → Prop) (h : ∀ H', Ext H H' → Q (.tuple [.int .i64 (firstS m s low high t 0).1, .int .i64 (firstS m s low high t 0).2]) H') : AC Try.prog 64 [WV m s t, .int .i64 low, .int .i64 high] H Q := by
  refine L_body 28 Try.func64 rfl rfl ?_
  refine L_reg [1, 2, 3] (fun K hK => ?_)
  simp [AV.isU, acells, WV]
  apply hK; clear hK K
  obtain ⟨H1, e, hE, -, -, b⟩ := box3 H m s t
  rw [e]
  refine L_reg [1, 2, 3, 11, 12] (fun K hK => ?_)
  simp [b.l2]
  apply hK; clear hK K
  refine L_block (L_loopV [12] (fun n vs H' => ∃ k : Nat, n = t - k ∧ k ≤ t ∧ firstS m s low high (t - k) k = firstS m s low high t 0 ∧ vs = [.int .i64 k] ∧ H1 = H') _ [.int .i64 (0 : Nat)] rfl ⟨0, rfl, by omega, rfl, rfl, rfl⟩ ?_)
  rintro n _ _ ⟨k, rfl, hk, hf, rfl, rfl⟩
  refine L_reg [1, 2, 3, 11, 12, 13] (fun K hK => ?_)
  simp
  apply hK; clear hK K
  refine L_dec (k < t) (by simp) (fun hlt => ?_) (fun hge => L_exit ?_)
  · refine L_block ?_
    have hbd := bound h2 h3 h5 hk
    have e1 : t - k = (t - (k + 1)) + 1 := by omega
    rw [e1] at hf
    simp only [firstS] at hf
    refine L_reg [1, 2, 3, 8, 11, 12] (fun K hK => ?_)
    simp
    apply hK; clear hK K
    generalize hw : k * s % m = w at hf
    refine L_reg [1, 2, 3, 8, 9, 11, 12] (fun K hK => ?_)
    simp [okFn_low, b.la]
    refine mark_ac m s k t (by omega) (by omega) _ _ ?_
    simp [hw]
    apply hK; clear hK K
    by_cases c1 : low ≤ (w : Int)
    · by_cases c2 : (w : Int) ≤ high
      · refine L_reg [1, 2, 3, 8, 11, 12, 25] (fun K hK => ?_)
        simp [pickV, c1, c2]
        apply hK; clear hK K
        refine L_true (by simp) ?_
        refine L_reg [6, 7] (fun K hK => ?_)
        simp
        apply hK; clear hK K
        rw [if_pos ⟨c1, c2⟩] at hf
        have h4 := h _ hE
        rw [← hf] at h4
        exact L_ret ⟨.inr rfl, _, rfl, h4⟩
      · rw [if_neg (fun h => c2 h.2)] at hf
        refine L_reg [1, 2, 3, 8, 11, 12, 25] (fun K hK => ?_)
        simp [pickV, c1, c2]
        apply hK; clear hK K
        refine L_false (by simp) ?_
        refine L_reg [1, 2, 3, 11, 12] (fun K hK => ?_)
        simp [wrap_i64 (a := (k : Int) + 1) (by have := per_le m s; omega)]
        apply hK; clear hK K
        exact ⟨t - (k + 1), _, by omega, by simp, k + 1, rfl, by omega, hf, rfl, rfl⟩
    · rw [if_neg (fun h => c1 h.1)] at hf
      refine L_reg [1, 2, 3, 8, 11, 12, 25] (fun K hK => ?_)
      simp [pickV, c1]
      apply hK; clear hK K
      refine L_false (by simp) ?_
      refine L_reg [1, 2, 3, 11, 12] (fun K hK => ?_)
      simp [wrap_i64 (a := (k : Int) + 1) (by have := per_le m s; omega)]
      apply hK; clear hK K
      exact ⟨t - (k + 1), _, by omega, by simp, k + 1, rfl, by omega, hf, rfl, rfl⟩
  · refine L_reg [6, 7] (fun K hK => ?_)
    simp
    apply hK; clear hK K
    have e1 : t - k = 0 := by omega
    rw [e1] at hf
    have h4 := h _ hE
    rw [← hf] at h4
    exact L_ret ⟨.inr rfl, _, rfl, h4⟩
theorem first_ac (m s t : Nat) (low high : Int) (h1 : 1 ≤ m) (h2 : m ≤ 100) (h3 : s < m) (h5 : t ≤ per m s) (H : AH) (Q : AV → AH → Prop) (h : Q (.tuple [.int .i64 (firstS m s low high t 0).1, .int .i64 (firstS m s low high t 0).2]) H) : AC Try.prog 64 [WV m s t, .int .i64 low, .int .i64 high] H Q :=
  AC.quiet (by simp [belB]) (fun Q h => first_ac0 m s t low high h1 h2 h3 h5 H Q h) Q h
/-- The turn at a mark, with its error. -/
def whichS (m s t k : Int) : Int × Int := if checkE m s t = 0 then (if 0 ≤ k ∧ k < m then firstS m.toNat s.toNat k k t.toNat 0 else (0, 2)) else (0, checkE m s t)
theorem Which_ac0 (m s t k : Int) (H : AH) (Q : AV → AH → Prop) (h : ∀ H', Ext H H' → Q (.tuple [.int .i64 (whichS m s t k).1, .int .i64 (whichS m s t k).2]) H') : AC Try.prog 18 [WV m s t, .int .i64 k] H Q := by
  refine L_body 22 Try.func18 rfl rfl ?_
  refine L_reg [1, 2] (fun K hK => ?_)
  simp [AV.isU, acells, WV]
  apply hK; clear hK K
  obtain ⟨H1, e, hE, -, -, b⟩ := box3 H m s t
  rw [e]
  refine L_reg [1, 2, 6] (fun K hK => ?_)
  simp [okFn_low, b.la]
  refine Check_ac m s t _ _ ?_
  simp
  apply hK; clear hK K
  refine L_reg [1, 2, 6, 10] (fun K hK => ?_)
  simp
  apply hK; clear hK K
  by_cases h0 : checkE m s t = 0
  · refine L_false (by simp [h0]) ?_
    refine L_reg [1, 2, 15] (fun K hK => ?_)
    simp [okFn_low, b.la]
    refine isMark_ac m s t k _ _ ?_
    simp
    apply hK; clear hK K
    by_cases h1 : 0 ≤ k ∧ k < m
    · refine L_false (by simp [h1]) ?_
      have h4 := h _ hE
      rw [whichS, if_pos h0, if_pos h1] at h4
      obtain ⟨m, s, t, rfl, rfl, rfl, a1, a2, a3, a4, a5⟩ := checkE_zero h0
      refine L_reg [4, 5] (fun K hK => ?_)
      simp [okFn_low, b.la]
      refine first_ac m s t k k a1 a2 a3 a5 _ _ ?_
      simp
      apply hK; clear hK K
      exact L_ret ⟨.inr rfl, _, rfl, by simpa using h4⟩
    · refine L_true (by simp; omega) ?_
      refine L_reg [4, 5] (fun K hK => ?_)
      simp
      apply hK; clear hK K
      exact L_ret ⟨.inr rfl, _, rfl, by simpa [whichS, h0, h1] using h _ hE⟩
  · refine L_true (by simp [h0]) ?_
    refine L_reg [4, 5] (fun K hK => ?_)
    simp
    apply hK; clear hK K
    exact L_ret ⟨.inr rfl, _, rfl, by simpa [whichS, h0] using h _ hE⟩
theorem Which_ac (m s t k : Int) (H : AH) (Q : AV → AH → Prop) (h : Q (.tuple [.int .i64 (whichS m s t k).1, .int .i64 (whichS m s t k).2]) H) : AC Try.prog 18 [WV m s t, .int .i64 k] H Q :=
  AC.quiet (by simp [belB]) (fun Q h => Which_ac0 m s t k H Q h) Q h
end Go.Proofs.Ytjfmiohgkcjdnaa

/- The wrapper that has all turns; the first turn at some marks; what comes nearer. -/
namespace Go.Proofs.Ytjfmiohgkcjdnaa
open Go Go.Proofs.Ytjfmiohgkcjdnaa.AX

theorem res_cell_tmp {P : Program} {fn : Func} {e : Env} {H : AH} {a b : Tmp} {t : TypeId} {v u : AV} (hr : fn.results = #[.cell a t, .tmp b]) (hv : loadV P t H (eget e a) = some v) (hb : eget e b = u) : aResults P fn e H = some (.tuple [v, u]) := by
  have h1 : aRes1 P e H (.cell a t) = some v := hv
  have h2 : aRes1 P e H (.tmp b) = some u := by simp [aRes1, hb]
  simp [aResults, hr, aResList, h1, h2]
theorem newW (H : AH) (a b c : Int) : storeV Try.prog 23 (H ++ [AObj.row [.int .i64 0, .int .i64 0, .int .i64 0] 0 0 false]) (.ptr H.length 0 0) (.agg [.int .i64 a, .int .i64 b, .int .i64 c]) = some (none, H ++ [.row [.int .i64 a, .int .i64 b, .int .i64 c] 0 0 false]) := by
  rw [store_agg ag23 (c := [.int .i64 0, .int .i64 0, .int .i64 0]) (s := 0) (by simp) (by decide) rfl (by simp) rfl (by simp [AV.one])]
  simp
theorem setW {H : AH} {p s : Nat} {x y z : Int} (h : H[p]? = some (.row [.int .i64 x, .int .i64 y, .int .i64 z] 0 s false)) (a b c : Int) : storeV Try.prog 23 H (.ptr p 0 0) (.agg [.int .i64 a, .int .i64 b, .int .i64 c]) = some (none, H.set p (.row [.int .i64 a, .int .i64 b, .int .i64 c] 0 0 false)) :=
  store_agg ag23 h (by decide) rfl (by simp) rfl (by simp [AV.one])
theorem setT {H : AH} {p s : Nat} {x y z : Int} (h : H[p]? = some (.row [.int .i64 x, .int .i64 y, .int .i64 z] 0 s false)) (c : Int) : storeV Try.prog 3 H (.ptr p 2 0) (.int .i64 c) = some (none, H.set p (.row [.int .i64 x, .int .i64 y, .int .i64 c] 0 (min s 2) false)) :=
  store_row (P := Try.prog) (u := 3) (p := 2) sc3 (x := .int .i64 c) (y := .int .i64 z) rfl h rfl
theorem setS {H : AH} {p s : Nat} {x y z : Int} (h : H[p]? = some (.row [.int .i64 x, .int .i64 y, .int .i64 z] 0 s false)) (c : Int) : storeV Try.prog 3 H (.ptr p 1 0) (.int .i64 c) = some (none, H.set p (.row [.int .i64 x, .int .i64 c, .int .i64 z] 0 (min s 1) false)) :=
  store_row (P := Try.prog) (u := 3) (p := 1) sc3 (x := .int .i64 c) (y := .int .i64 y) rfl h rfl
theorem belB_W (N : Nat) (a b c d : Int) : belB N 4 (.tuple [WV a b c, .int .i64 d]) = true := by simp [belB, WV]
def circleE (m s : Int) : Int := if m < 1 ∨ 100 < m ∨ s < 0 ∨ m ≤ s then 1 else 0
theorem checkE_one (m s : Int) : checkE m s 1 = circleE m s := by
  unfold checkE circleE
  by_cases h : m < 1 ∨ 100 < m ∨ s < 0 ∨ m ≤ s
  · rw [if_pos h, if_pos (by omega)]
  · rw [if_neg h, if_neg (by omega)]
    have : 0 < per m.toNat s.toNat := per_pos (by omega)
    rw [if_neg (by omega)]
theorem circleE_zero {m s : Int} (h : circleE m s = 0) : ∃ m' s' : Nat, m = m' ∧ s = s' ∧ 1 ≤ m' ∧ m' ≤ 100 ∧ s' < m' := by
  unfold circleE at h
  split at h
  · cases h
  · exact ⟨m.toNat, s.toNat, by omega, by omega, by omega, by omega, by omega⟩
def wholeV (m s : Int) : AV := if circleE m s = 0 then WV m s (per m.toNat s.toNat : Nat) else WV 0 0 0
set_option maxRecDepth 100000 in
theorem whole_ac0 (m s : Int) (H : AH) (Q : AV → AH → Prop) (h : ∀ H', Ext H H' → Q (.tuple [wholeV m s, .int .i64 (circleE m s)]) H') : AC Try.prog 77 [.int .i64 m, .int .i64 s] H Q := by
  refine L_body 21 Try.func77 rfl rfl ?_
  refine L_reg [0, 1, 4] (fun K hK => ?_)
  simp [alloc_z zt23]
  apply hK; clear hK K
  obtain ⟨H1, e, hE, hl, r1, -⟩ := box3 H 0 0 0
  rw [e]
  generalize hp : H.length = p at hl r1 ⊢
  refine L_reg [4, 6] (fun K hK => ?_)
  simp [alloc_z zt23, newW]
  apply hK; clear hK K
  obtain ⟨H2, e2, hE2, hl2, r2, b⟩ := box3 H1 m s 1
  rw [e2]
  generalize H1.length = q at hl hl2 r2 b ⊢
  refine L_reg [4, 6, 7] (fun K hK => ?_)
  simp [okFn_low, b.la]
  refine Check_ac m s 1 _ _ ?_
  simp
  apply hK; clear hK K
  refine L_reg [4, 6, 7, 14] (fun K hK => ?_)
  simp
  apply hK; clear hK K
  have r1' := hE2.row r1
  rw [checkE_one]
  by_cases h0 : circleE m s = 0
  · refine L_false (by simp [h0]) ?_
    have hv : wholeV m s = WV m s (per m.toNat s.toNat : Nat) := by rw [wholeV, if_pos h0]
    rw [hv, h0] at h
    obtain ⟨m, s, rfl, rfl, a1, a2, a3⟩ := circleE_zero h0
    refine L_reg [4, 6] (fun K hK => ?_)
    simp [okFn_low, b.la]
    refine differ_ac m s 1 (by omega) (by omega) (by omega) _ _ ?_
    simp [setT r2]
    apply hK; clear hK K
    have r3 := get_set (o' := AObj.row [.int .i64 m, .int .i64 s, .int .i64 (per m s : Nat)] 0 (min 0 2) false) r2
    have r3' : (H2.set q (AObj.row [.int .i64 m, .int .i64 s, .int .i64 (per m s : Nat)] 0 (min 0 2) false))[p]? = _ := (set_ne (by omega)).trans r1'
    have hE3 : Ext H (H2.set q (AObj.row [.int .i64 m, .int .i64 s, .int .i64 (per m s : Nat)] 0 (min 0 2) false)) := (hE.trans hE2).set _ (by omega)
    simp only [Nat.zero_min] at r3 r3' hE3 ⊢
    generalize H2.set q (AObj.row [.int .i64 m, .int .i64 s, .int .i64 (per m s : Nat)] 0 0 false) = H3 at r3 r3' hE3 ⊢
    refine L_reg [4, 5] (fun K hK => ?_)
    simp [(Bx.row r3).la, setW r3']
    apply hK; clear hK K
    have hE4 : Ext H (H3.set p (AObj.row [.int .i64 m, .int .i64 s, .int .i64 (per m s : Nat)] 0 0 false)) := hE3.set _ (by omega)
    refine L_ret ⟨.inr rfl, _, ?_, h _ hE4⟩
    refine res_cell_tmp rfl ?_ rfl
    simp [(Bx.row (get_set r3')).la, WV]
  · refine L_true (by simp [h0]) ?_
    have hv : wholeV m s = WV 0 0 0 := by rw [wholeV, if_neg h0]
    rw [hv] at h
    refine L_reg [4, 5] (fun K hK => ?_)
    simp [setW r1']
    apply hK; clear hK K
    refine L_ret ⟨.inr rfl, _, ?_, h _ ((hE.trans hE2).set _ (by omega))⟩
    refine res_cell_tmp rfl ?_ rfl
    simp [(Bx.row (get_set r1')).la, WV]
theorem whole_ac (m s : Int) (H : AH) (Q : AV → AH → Prop) (h : Q (.tuple [wholeV m s, .int .i64 (circleE m s)]) H) : AC Try.prog 77 [.int .i64 m, .int .i64 s] H Q :=
  AC.quiet (by unfold wholeV; split <;> exact belB_W ..) (fun Q h => whole_ac0 m s H Q h) Q h

/-- The first turn at marks from low to high, with its error. -/
def firstR (m s low high : Int) : Int × Int :=
  if circleE m s = 0 then (if (0 ≤ low ∧ low < m) ∧ (0 ≤ high ∧ high < m) then (if high < low then (0, 7) else firstS m.toNat s.toNat low high (per m.toNat s.toNat) 0) else (0, 2)) else (0, circleE m s)
theorem First_ac0 (m s low high : Int) (H : AH) (Q : AV → AH → Prop) (h : ∀ H', Ext H H' → Q (.tuple [.int .i64 (firstR m s low high).1, .int .i64 (firstR m s low high).2]) H') : AC Try.prog 43 [.int .i64 m, .int .i64 s, .int .i64 low, .int .i64 high] H Q := by
  refine L_body 40 Try.func43 rfl rfl ?_
  refine L_reg [0, 1, 2, 3] (fun K hK => ?_)
  simp
  apply hK; clear hK K
  by_cases h0 : circleE m s = 0
  · rw [firstR, if_pos h0] at h
    have hv : wholeV m s = WV m s (per m.toNat s.toNat : Nat) := by rw [wholeV, if_pos h0]
    refine L_reg [2, 3, 10, 11] (fun K hK => ?_)
    simp [okFn_low]
    refine whole_ac m s _ _ ?_
    simp [alloc_z zt23, hv, h0, WV, newW]
    apply hK; clear hK K
    obtain ⟨m, s, rfl, rfl, a1, a2, a3⟩ := circleE_zero h0
    obtain ⟨H1, e, hE, -, -, b⟩ := box3 H m s (per m s : Nat)
    simp only [Int.toNat_natCast] at h ⊢
    rw [e]
    refine L_reg [2, 3, 10, 11, 19] (fun K hK => ?_)
    simp
    apply hK; clear hK K
    refine L_false (by simp) ?_
    by_cases c1 : 0 ≤ low ∧ low < (m : Int)
    · refine L_reg [2, 3, 10, 30] (fun K hK => ?_)
      simp [okFn_low, b.la]
      refine isMark_ac m s (per m s : Nat) low _ _ ?_
      simp [c1, okFn_low, b.la]
      refine isMark_ac m s (per m s : Nat) high _ _ ?_
      simp [pickV]
      apply hK; clear hK K
      by_cases c2 : 0 ≤ high ∧ high < (m : Int)
      · refine L_false (by simp; omega) ?_
        rw [if_pos ⟨c1, c2⟩] at h
        refine L_reg [2, 3, 10, 33] (fun K hK => ?_)
        simp
        apply hK; clear hK K
        refine L_dec (high < low) (by simp) (fun c3 => ?_) (fun c3 => ?_)
        · refine L_reg [8, 9] (fun K hK => ?_)
          simp
          apply hK; clear hK K
          rw [if_pos c3] at h
          exact L_ret ⟨.inr rfl, _, rfl, h _ hE⟩
        · rw [if_neg c3] at h
          refine L_reg [8, 9] (fun K hK => ?_)
          simp [okFn_low, b.la]
          refine first_ac m s (per m s) low high a1 a2 a3 (Nat.le_refl _) _ _ ?_
          simp
          apply hK; clear hK K
          exact L_ret ⟨.inr rfl, _, rfl, by simpa using h _ hE⟩
      · refine L_true (by simp; omega) ?_
        rw [if_neg (fun h => c2 h.2)] at h
        refine L_reg [8, 9] (fun K hK => ?_)
        simp
        apply hK; clear hK K
        exact L_ret ⟨.inr rfl, _, rfl, h _ hE⟩
    · refine L_reg [2, 3, 10, 30] (fun K hK => ?_)
      simp [okFn_low, b.la]
      refine isMark_ac m s (per m s : Nat) low _ _ ?_
      simp [c1, pickV]
      apply hK; clear hK K
      refine L_true (by simp) ?_
      rw [if_neg (fun h => c1 h.1)] at h
      refine L_reg [8, 9] (fun K hK => ?_)
      simp
      apply hK; clear hK K
      exact L_ret ⟨.inr rfl, _, rfl, h _ hE⟩
  · rw [firstR, if_neg h0] at h
    have hv : wholeV m s = WV 0 0 0 := by rw [wholeV, if_neg h0]
    refine L_reg [2, 3, 10, 11] (fun K hK => ?_)
    simp [okFn_low]
    refine whole_ac m s _ _ ?_
    simp [alloc_z zt23, hv, WV, newW]
    apply hK; clear hK K
    refine L_reg [2, 3, 10, 11, 19] (fun K hK => ?_)
    simp
    apply hK; clear hK K
    refine L_true (by simp [h0]) ?_
    refine L_reg [8, 9] (fun K hK => ?_)
    simp
    apply hK; clear hK K
    exact L_ret ⟨.inr rfl, _, rfl, by simpa using h _ (.push _ _)⟩
theorem First_ac (m s low high : Int) (H : AH) (Q : AV → AH → Prop) (h : Q (.tuple [.int .i64 (firstR m s low high).1, .int .i64 (firstR m s low high).2]) H) : AC Try.prog 43 [.int .i64 m, .int .i64 s, .int .i64 low, .int .i64 high] H Q :=
  AC.quiet (by simp [belB]) (fun Q h => First_ac0 m s low high H Q h) Q h
end Go.Proofs.Ytjfmiohgkcjdnaa

/- The turn that is met first if one goes to a side. -/
namespace Go.Proofs.Ytjfmiohgkcjdnaa
open Go Go.Proofs.Ytjfmiohgkcjdnaa.AX

def stepS (m : Nat) (to : Int) (w : Nat) : Nat := if to = 1 then (w + m - 1) % m else (w + 1) % m
theorem beside_ac0 (m s w : Nat) (t to : Int) (h1 : 1 ≤ m) (h2 : m ≤ 100) (h3 : w < m) (H : AH) (Q : AV → AH → Prop) (h : ∀ H', Ext H H' → Q (.int .i64 (stepS m to w : Nat)) H') : AC Try.prog 85 [WV m s t, .int .i64 w, .int .i64 to] H Q := by
  refine L_body 22 Try.func85 rfl rfl ?_
  refine L_reg [1, 2, 3] (fun K hK => ?_)
  simp [AV.isU, acells, WV]
  apply hK; clear hK K
  obtain ⟨H1, e, hE, -, -, b⟩ := box3 H m s t
  rw [e]
  have hne : m ≠ 0 := by omega
  refine L_reg [1, 3, 8] (fun K hK => ?_)
  simp
  apply hK; clear hK K
  by_cases h4 : to = 1
  · refine L_true (by simp [h4]) ?_
    have e2 : ((w : Int) + m - 1).tmod m = (((w + m - 1) % m : Nat) : Int) := by
      rw [show (w : Int) + m - 1 = ((w + m - 1 : Nat) : Int) by omega, Int.tmod_eq_emod_of_nonneg (by omega)]; rfl
    rw [stepS, if_pos h4] at h
    generalize (w + m - 1) % m = r at e2 h
    refine L_reg [6] (fun K hK => ?_)
    simp [b.l0, hne, wrap_i64 (a := (w : Int) + m) (by omega), wrap_i64 (a := (w : Int) + m - 1) (by omega), e2]
    apply hK; clear hK K
    exact L_ret ⟨.inr rfl, _, rfl, h _ hE⟩
  · refine L_false (by simp [h4]) ?_
    have e2 : ((w : Int) + 1).tmod m = (((w + 1) % m : Nat) : Int) := by
      rw [show (w : Int) + 1 = ((w + 1 : Nat) : Int) by omega, Int.tmod_eq_emod_of_nonneg (by omega)]; rfl
    rw [stepS, if_neg h4] at h
    generalize (w + 1) % m = r at e2 h
    refine L_reg [6] (fun K hK => ?_)
    simp [b.l0, hne, wrap_i64 (a := (w : Int) + 1) (by omega), e2]
    apply hK; clear hK K
    exact L_ret ⟨.inr rfl, _, rfl, h _ hE⟩
theorem beside_ac (m s w : Nat) (t to : Int) (h1 : 1 ≤ m) (h2 : m ≤ 100) (h3 : w < m) (H : AH) (Q : AV → AH → Prop) (h : Q (.int .i64 (stepS m to w : Nat)) H) : AC Try.prog 85 [WV m s t, .int .i64 w, .int .i64 to] H Q :=
  AC.quiet (belB_int _ _ _ _) (fun Q h => beside_ac0 m s w t to h1 h2 h3 H Q h) Q h
theorem stepS_lt {m w : Nat} (to : Int) (h1 : 1 ≤ m) : stepS m to w < m := by
  unfold stepS
  split <;> exact Nat.mod_lt _ (by omega)
/-- The first of n turns, from turn k on, that begins at mark w. -/
def atS (m s w : Nat) : Nat → Nat → Option Nat
  | 0, _ => none
  | n + 1, k => if k * s % m = w then some k else atS m s w n (k + 1)
/-- Up to n marks are looked at. -/
def nbS (m s t : Nat) (to : Int) : Nat → Nat → Nat → Nat
  | 0, _, met => met
  | n + 1, w, _ => match atS m s (stepS m to w) t 0 with
    | some k => k
    | none => nbS m s t to n (stepS m to w) (t - 1)
set_option maxRecDepth 100000 in
theorem neigh_ac0 (m s t k : Nat) (to : Int) (h1 : 1 ≤ m) (h2 : m ≤ 100) (h3 : s < m) (h4 : 1 ≤ t) (h5 : t ≤ per m s) (h6 : k ≤ t) (H : AH) (Q : AV → AH → Prop) (h : ∀ H', Ext H H' → Q (.int .i64 (nbS m s t to m (k * s % m) k : Nat)) H') : AC Try.prog 69 [WV m s t, .int .i64 k, .int .i64 to] H Q := by
  refine L_body 34 Try.func69 rfl rfl ?_
  refine L_reg [1, 2, 3] (fun K hK => ?_)
  simp [AV.isU, acells, WV]
  apply hK; clear hK K
  obtain ⟨H1, e, hE, -, -, b⟩ := box3 H m s t
  rw [e]
  have hbk := bound h2 h3 h5 h6
  have hmp := per_le m s
  refine L_scope ?_
  generalize hw0 : k * s % m = w0 at h
  have hw0l : w0 < m := by rw [← hw0]; exact Nat.mod_lt _ (by omega)
  refine L_reg [2, 3, 7, 8] (fun K hK => ?_)
  simp [okFn_low, b.la]
  refine mark_ac m s k t (by omega) (by omega) _ _ ?_
  simp [hw0]
  apply hK; clear hK K
  refine L_reg [2, 3, 7, 8, 14, 15] (fun K hK => ?_)
  simp [b.l0]
  apply hK; clear hK K
  have fin : ∀ (r : Nat) (Q' : Ex → Env → AH → Prop), nbS m s t to m w0 k = r → True := fun _ _ _ => trivial
  refine L_block (L_loopV [7, 8, 15] (fun n vs H' => ∃ w met i : Nat, n = m - i ∧ i ≤ m ∧ w < m ∧ met ≤ t ∧ nbS m s t to (m - i) w met = nbS m s t to m w0 k ∧ vs = [.int .i64 w, .int .i64 met, .int .i64 i] ∧ H1 = H') _ [.int .i64 w0, .int .i64 k, .int .i64 (0 : Nat)] rfl ⟨w0, k, 0, rfl, by omega, hw0l, h6, rfl, rfl, rfl⟩ ?_)
  rintro n _ _ ⟨w, met, i, rfl, hi, hw, hmet, hn, rfl, rfl⟩
  refine L_reg [2, 3, 7, 8, 14, 15, 16] (fun K hK => ?_)
  simp
  apply hK; clear hK K
  refine L_dec (i < m) (by simp) (fun hlt => ?_) (fun hge => L_exit ?_)
  · refine L_block ?_
    have e1 : m - i = (m - (i + 1)) + 1 := by omega
    rw [e1] at hn
    simp only [nbS] at hn
    have hsl := stepS_lt (w := w) to h1
    generalize hst : stepS m to w = w' at hn hsl
    refine L_reg [2, 3, 7, 8, 14, 15] (fun K hK => ?_)
    simp [okFn_low, b.la]
    refine beside_ac m s w t to h1 h2 hw _ _ ?_
    simp [hst]
    apply hK; clear hK K
    refine L_reg [2, 3, 7, 8, 14, 15, 22, 23] (fun K hK => ?_)
    simp [b.l2]
    apply hK; clear hK K
    refine L_block (L_loopV [8, 23] (fun n vs H' => ∃ met' j : Nat, n = t - j ∧ j ≤ t ∧ met' ≤ t ∧ (0 < j → met' = j - 1) ∧ atS m s w' (t - j) j = atS m s w' t 0 ∧ vs = [.int .i64 met', .int .i64 j] ∧ H1 = H') _ [.int .i64 met, .int .i64 (0 : Nat)] rfl ⟨met, 0, rfl, by omega, hmet, fun h => by omega, rfl, rfl, rfl⟩ ?_)
    rintro n _ _ ⟨met', j, rfl, hj, hmet', hm1, ha, rfl, rfl⟩
    refine L_reg [2, 3, 7, 8, 14, 15, 22, 23, 24] (fun K hK => ?_)
    simp
    apply hK; clear hK K
    refine L_dec (j < t) (by simp) (fun hjt => ?_) (fun hge => L_exit ?_)
    · refine L_block ?_
      have e2 : t - j = (t - (j + 1)) + 1 := by omega
      rw [e2] at ha
      simp only [atS] at ha
      refine L_reg [2, 3, 7, 8, 14, 15, 22, 23] (fun K hK => ?_)
      simp
      apply hK; clear hK K
      have hbj := bound (k := j) h2 h3 h5 hj
      generalize hv : j * s % m = v at ha
      refine L_reg [2, 3, 7, 8, 14, 15, 22, 23, 30] (fun K hK => ?_)
      simp [okFn_low, b.la]
      refine mark_ac m s j t (by omega) (by omega) _ _ ?_
      simp [hv]
      apply hK; clear hK K
      by_cases hvw : v = w'
      · rw [if_pos hvw] at ha
        refine L_true (by simp [hvw]) (L_exit ?_)
        rw [← ha] at hn
        refine L_reg [6] (fun K hK => ?_)
        simp
        apply hK; clear hK K
        have h7 := h _ hE
        rw [← hn] at h7
        exact L_ret ⟨.inr rfl, _, rfl, h7⟩
      · rw [if_neg hvw] at ha
        refine L_false (by simp; omega) ?_
        refine L_reg [2, 3, 7, 8, 14, 15, 22, 23] (fun K hK => ?_)
        simp [wrap_i64 (a := (j : Int) + 1) (by omega)]
        apply hK; clear hK K
        exact ⟨t - (j + 1), [.int .i64 j, .int .i64 (j + 1 : Nat)], by omega, by simp, j, j + 1, rfl, by omega, by omega, fun _ => by omega, ha, rfl, rfl⟩
    · have e2 : t - j = 0 := by omega
      rw [e2] at ha
      simp only [atS] at ha
      rw [← ha] at hn
      have hm2 := hm1 (by omega)
      refine L_reg [2, 3, 7, 8, 14, 15] (fun K hK => ?_)
      simp [wrap_i64 (a := (i : Int) + 1) (by omega)]
      apply hK; clear hK K
      refine ⟨m - (i + 1), [.int .i64 w', .int .i64 met', .int .i64 (i + 1 : Nat)], by omega, by simp, w', met', i + 1, rfl, by omega, hsl, hmet', ?_, rfl, rfl⟩
      rw [← hn, show met' = t - 1 by omega]
  · refine L_reg [6] (fun K hK => ?_)
    simp
    apply hK; clear hK K
    have e1 : m - i = 0 := by omega
    rw [e1] at hn
    simp only [nbS] at hn
    have h7 := h _ hE
    rw [← hn] at h7
    exact L_ret ⟨.inr rfl, _, rfl, h7⟩
theorem neigh_ac (m s t k : Nat) (to : Int) (h1 : 1 ≤ m) (h2 : m ≤ 100) (h3 : s < m) (h4 : 1 ≤ t) (h5 : t ≤ per m s) (h6 : k ≤ t) (H : AH) (Q : AV → AH → Prop) (h : Q (.int .i64 (nbS m s t to m (k * s % m) k : Nat)) H) : AC Try.prog 69 [WV m s t, .int .i64 k, .int .i64 to] H Q :=
  AC.quiet (belB_int _ _ _ _) (fun Q h => neigh_ac0 m s t k to h1 h2 h3 h4 h5 h6 H Q h) Q h
end Go.Proofs.Ytjfmiohgkcjdnaa

/- A list from its end on; gaps. -/
namespace Go.Proofs.Ytjfmiohgkcjdnaa
open Go Go.Proofs.Ytjfmiohgkcjdnaa.AX

/-- All of a list is yielded, from its end on. -/
theorem back_ac (r pb : Nat) (l : List Int) (v : AV) (J : Nat → AH → Prop) (H : AH) (Q : AV → AH → Prop) (hlen : l.length ≤ 1000000) (hJ : ∀ i H', J i H' → ld H' pb 0 0 = some v ∧ Ls H' v l)
    (hs : ∀ i (hi : i < l.length) H', J (i + 1) H' → AYld Try.prog r [.int .i64 i, .int .i64 l[i]] H' fun u H2 => u = .bool true ∧ J i H2) (h0 : J l.length H) (h : ∀ H', J 0 H' → Q (.tuple []) H') : AC Try.prog 96 [.yld r, .ptr pb 0 0] H Q := by
  obtain ⟨r2, off, ver, sz, full, rfl, -⟩ := (hJ _ _ h0).2
  refine L_body 19 Try.func96 rfl rfl ?_
  refine L_reg [0, 1, 3] (fun K hK => ?_)
  simp [(hJ _ _ h0).1, wrap_i64 (a := (l.length : Int) - 1) (by omega)]
  apply hK; clear hK K
  refine L_block (L_loopV [3] (fun k vs H' => k ≤ l.length ∧ vs = [.int .i64 ((k : Int) - 1)] ∧ J k H') _ [.int .i64 ((l.length : Int) - 1)] rfl ⟨Nat.le_refl _, rfl, h0⟩ ?_)
  rintro k _ H1 ⟨hk, rfl, hk1⟩
  cases k with
  | zero =>
    refine L_reg [0, 1, 3, 8] (fun K hK => ?_)
    simp
    apply hK; clear hK K
    refine L_false (by simp) (L_exit ?_)
    exact ⟨.inl rfl, _, rfl, h _ hk1⟩
  | succ k =>
    refine L_reg [0, 1, 3, 8] (fun K hK => ?_)
    simp
    apply hK; clear hK K
    refine L_true (by simp) ?_
    refine L_block ?_
    obtain ⟨e1, e2⟩ := hJ _ _ hk1
    obtain ⟨r2', off', ver', sz', full', he, hld⟩ := e2
    cases he
    obtain ⟨r3, rfl, rfl, hrd⟩ := hld k (by omega)
    have hk2 : ((k : Int) + 1 - 1) = k := by omega
    have hk3 : k < l.length := by omega
    refine L_reg [0, 1, 3, 18] (fun K hK => ?_)
    simp [e1, hrd, hk3]
    refine (hs k hk3 H1 hk1).mono ?_
    rintro u H2 ⟨rfl, hJ2⟩
    simp
    apply hK; clear hK K
    refine L_false rfl ?_
    refine L_reg [0, 1, 3] (fun K hK => ?_)
    simp [wrap_i64 (a := (k : Int) - 1) (by omega)]
    apply hK; clear hK K
    exact ⟨k, [.int .i64 ((k : Int) - 1)], by omega, by simp, by omega, rfl, hJ2⟩
theorem backward_ac (v : AV) (hv : v.one = true) (H : AH) (Q : AV → AH → Prop) (h : Q (.func (.func 96) [] [.ptr H.length 0 0]) (H ++ [.row [v] 0 0 false])) : AC Try.prog 89 [v] H Q := by
  refine L_body 4 Try.func89 rfl rfl ?_
  have h1 : v.isU = false := by cases v <;> first | rfl | (simp [AV.one] at hv)
  have h2 : acells v = [v] := by cases v <;> first | rfl | (simp [AV.one] at hv)
  refine L_reg [1] (fun K hK => ?_)
  simp [h1, h2]
  apply hK; clear hK K
  refine L_reg [2] (fun K hK => ?_)
  simp
  apply hK; clear hK K
  exact L_ret ⟨.inr rfl, _, rfl, h⟩

def markN (m s : Nat) (x : Int) : Nat := x.toNat * s % m
/-- The gaps behind marks in their order. -/
def gapL (m : Nat) : List Nat → List Int
  | [] => []
  | w :: ws => (((ws.headD m : Nat) : Int) - w) :: gapL m ws
theorem gapL_len (m : Nat) : ∀ l : List Nat, (gapL m l).length = l.length
  | [] => rfl
  | _ :: l => by simp [gapL, gapL_len m l]
def RoundOk (m s t : Nat) (l : List Int) : Prop := ∀ (H : AH) (Q : AV → AH → Prop), (∀ v H', OwnF H.length H' v (l.map (.int .i64)) → Ext H H' → Q v H') → AC Try.prog 71 [WV m s t] H Q
theorem rows4 (H : AH) (a b c d : AObj) : (H ++ [a, b, c, d])[H.length]? = some a ∧ (H ++ [a, b, c, d])[H.length + 1]? = some b ∧ (H ++ [a, b, c, d])[H.length + 2]? = some c ∧ (H ++ [a, b, c, d])[H.length + 3]? = some d ∧ (H ++ [a, b, c, d]).length = H.length + 4 ∧ Ext H (H ++ [a, b, c, d]) := by
  refine ⟨?_, ?_, ?_, ?_, by simp, .push _ _⟩ <;> simp
theorem st_zero (H : AH) (v : Int) : storeV Try.prog 3 (H ++ [AObj.row [AV.int .i64 0] 0 0 false]) (.ptr H.length 0 0) (.int .i64 v) = some (none, H ++ [.row [.int .i64 v] 0 0 false]) := store_last sc3 (y := .int .i64 0) rfl rfl
theorem zt36 : zeroT Try.prog 36 = some [.slice none 0 0 0 1 false] := by kernel_rfl
theorem st_slice (H : AH) (r : Option Nat) (off len ver sz : Nat) (full : Bool) : storeV Try.prog 36 (H ++ [AObj.row [.slice none 0 0 0 1 false] 0 0 false]) (.ptr H.length 0 0) (.slice r off len ver sz full) = some (none, H ++ [.row [.slice r off len ver sz full] 0 0 false]) := store_last sc36 (y := .slice none 0 0 0 1 false) rfl rfl
theorem below_ext {H H1 H2 : AH} {w : Nat} (hE : Ext H H1) (hw : H.length ≤ w) (hl : w ≤ H2.length) (h : ∀ j, j < w → H2[j]? = H1[j]?) : Ext H H2 := ⟨by omega, fun j hj => by rw [h j (by omega), hE.2 j hj]⟩
set_option maxRecDepth 100000 in
theorem gaps_ac0 (m s t : Nat) (l : List Int) (h1 : 1 ≤ m) (h2 : m ≤ 100) (h3 : s < m) (h5 : t ≤ per m s) (hR : RoundOk m s t l) (hl : ∀ x ∈ l, 0 ≤ x ∧ x < t) (hln : l.length ≤ 1000) (H : AH) (Q : AV → AH → Prop)
    (h : ∀ v H', OwnF H.length H' v ((gapL m (l.map (markN m s))).map (.int .i64)) → Ext H H' → Q v H') : AC Try.prog 73 [WV m s t] H Q := by
  refine L_body 31 Try.func73 rfl rfl ?_
  refine L_reg [1, 6, 7] (fun K hK => ?_)
  simp [AV.isU, acells, WV]
  apply hK; clear hK K
  obtain ⟨H1, e, hE, hl1, r1, b⟩ := box3 H m s t
  rw [e]
  generalize hp : H.length = p at hl1 r1 b ⊢
  refine L_reg [1, 3, 6, 7] (fun K hK => ?_)
  simp [okFn_low, b.la]
  refine hR _ _ (fun v H2 hO hE2 => ?_)
  simp
  apply hK; clear hK K
  have r2 := hE2.row r1
  have b2 := b.ext hE2
  obtain ⟨r0, ver0, hv⟩ := hO.len
  have hLs : Ls H2 v l := hO.own.ls
  rw [List.length_map] at hv
  subst hv
  have hE02 := hE.trans hE2
  have hp2 : p < H2.length := by have := hE2.1; omega
  obtain ⟨I36, hI36, hz36⟩ := zeroT_some zt36
  have hst : storeV Try.prog 36 (H2 ++ [AObj.row (List.replicate l.length (AV.int .i64 0)) 0 0 false, AObj.row [.slice none 0 0 0 1 false] 0 0 false]) (.ptr (H2.length + 1) 0 0) (.slice (some H2.length) 0 l.length 0 1 false) = some (none, H2 ++ [AObj.row (List.replicate l.length (AV.int .i64 0)) 0 0 false, AObj.row [.slice (some H2.length) 0 l.length 0 1 false] 0 0 false]) := by
    have := st_slice (H2 ++ [AObj.row (List.replicate l.length (AV.int .i64 0)) 0 0 false]) (some H2.length) 0 l.length 0 1 false
    simpa using this
  refine L_reg [1, 3, 4, 6, 7] (fun K hK => ?_)
  simp [make_z elz36 (show l.length ≤ 16777216 by omega), hI36, hz36, hst]
  apply hK; clear hK K
  have bb := b2.ext (.push H2 [AObj.row (List.replicate l.length (AV.int .i64 0)) 0 0 false, AObj.row [.slice (some H2.length) 0 l.length 0 1 false] 0 0 false])
  have hst3 : storeV Try.prog 3 (H2 ++ [AObj.row (List.replicate l.length (AV.int .i64 0)) 0 0 false, AObj.row [.slice (some H2.length) 0 l.length 0 1 false] 0 0 false, AObj.row [.int .i64 0] 0 0 false]) (.ptr (H2.length + 2) 0 0) (.int .i64 m) = some (none, H2 ++ [AObj.row (List.replicate l.length (AV.int .i64 0)) 0 0 false, AObj.row [.slice (some H2.length) 0 l.length 0 1 false] 0 0 false, AObj.row [.int .i64 m] 0 0 false]) := by
    have := st_zero (H2 ++ [AObj.row (List.replicate l.length (AV.int .i64 0)) 0 0 false, AObj.row [.slice (some H2.length) 0 l.length 0 1 false] 0 0 false]) m
    simpa using this
  obtain ⟨I3, hI3, hz3⟩ := zeroT_some zt3
  refine L_reg [1, 3, 4, 5, 6, 7] (fun K hK => ?_)
  simp [bb.l0, hI3, hz3, hst3]
  apply hK; clear hK K
  refine L_reg [1, 4, 5, 6, 7, 16] (fun K hK => ?_)
  simp [okFn_low]
  refine backward_ac _ rfl _ _ ?_
  simp
  apply hK; clear hK K
  obtain ⟨a0, a1, a2, a3, a4, a5⟩ := rows4 H2 (.row (List.replicate l.length (AV.int .i64 0)) 0 0 false) (.row [.slice (some H2.length) 0 l.length 0 1 false] 0 0 false) (.row [.int .i64 m] 0 0 false) (.row [.slice r0 0 l.length ver0 1 false] 0 0 false)
  have b3 := b2.ext a5
  have r3 := a5.row r2
  have hLs3 := hLs.ext a5
  have hE03 := hE02.trans a5
  clear bb hst hst3
  generalize H2 ++ [AObj.row (List.replicate l.length (AV.int .i64 0)) 0 0 false, AObj.row [.slice (some H2.length) 0 l.length 0 1 false] 0 0 false, AObj.row [.int .i64 m] 0 0 false, AObj.row [.slice r0 0 l.length ver0 1 false] 0 0 false] = H3 at a0 a1 a2 a3 a4 a5 b3 r3 hLs3 hE03 ⊢
  generalize hq : H2.length = q at a0 a1 a2 a3 a4 ⊢
  refine L_block (L_range [1, 4, 5, 6, 7] rfl (okFn_low (by omega) (by omega)) ?_)
  generalize hL : (⟨31, _, _, _, _⟩ : LR) = L
  have hnt : L.nt = 31 := by rw [← hL]
  have hps : L.ps = #[17, 18] := by rw [← hL]
  have hass := congrArg LR.assign hL.symm
  have he : L.e = [(1, .ptr p 0 0), (4, .ptr (q + 1) 0 0), (5, .ptr (q + 2) 0 0)] := by rw [← hL]; rfl
  have hbody := congrArg LR.body hL.symm
  clear hL
  have hr0 : (H3 ++ [AObj.loop .ready .normal L])[H3.length]? = some (.loop .ready .normal L) := by simp
  have hin : ∀ j, j < H3.length → (H3 ++ [AObj.loop .ready .normal L])[j]? = H3[j]? := fun j hj => List.getElem?_append_left hj
  have hvL : ∀ H' : AH, (∀ j, j < H3.length → j ≠ q → j ≠ q + 2 → H'[j]? = H3[j]?) → Ls H' (.slice r0 0 l.length ver0 1 false) l := by
    intro H' hH
    rcases hO with ⟨g1, g2⟩ | ⟨r, ver, stale, -, g1, g2⟩
    · have : l = [] := by simpa using g1
      subst this
      rw [g2]; exact Ls.nil _
    · rw [g1]
      have hlt : r < q := by rw [← hq]; exact (List.getElem?_eq_some_iff.1 g2).1
      have g3 : H'[r]? = _ := (hH r (by omega) (by omega) (by omega)).trans (a5.row g2)
      have := Ls.row g3 false
      simpa using this
  have hwl : (l.map (markN m s)).length = l.length := by simp
  refine back_ac H3.length (q + 3) l (.slice r0 0 l.length ver0 1 false) (fun i H' => i ≤ l.length ∧ H3.length < H'.length ∧ H'[q]? = some (.row ((List.replicate i (0 : Int) ++ gapL m ((l.map (markN m s)).drop i)).map (.int .i64)) 0 0 false) ∧ (∃ st, H'[q + 2]? = some (.row [.int .i64 (((l.map (markN m s)).drop i).headD m : Nat)] 0 st false)) ∧
      (∀ j, j < H3.length → j ≠ q → j ≠ q + 2 → H'[j]? = H3[j]?) ∧ H'[H3.length]? = some (.loop .ready .normal L)) _ _ (by omega) ?_ ?_ ?_ ?_
  · rintro i H' ⟨g1, g2, g3, g4, g5, g6⟩
    have g7 : H'[q + 3]? = _ := (g5 _ (by omega) (by omega) (by omega)).trans a3
    exact ⟨by rw [ld_row g7]; rfl, hvL H' g5⟩
  · rintro i hi H' ⟨g1, g2, g3, ⟨st, g4⟩, g5, g6⟩
    have hd : (l.map (markN m s)).drop i = markN m s l[i] :: (l.map (markN m s)).drop (i + 1) := by
      rw [List.drop_eq_getElem_cons (by omega)]; simp
    have hm0 := hl l[i] (by simp)
    obtain ⟨k, hk⟩ : ∃ k : Nat, l[i] = k := ⟨l[i].toNat, by omega⟩
    have hbk := bound (k := k) h2 h3 h5 (by omega)
    have hmk : markN m s l[i] = k * s % m := by rw [markN, hk]; simp
    have hmlt : k * s % m < m := Nat.mod_lt _ (by omega)
    refine AYld_mkA g6 (by rw [hps]; rfl) (by rw [hps, hnt]; simp) ?_
    rw [hnt, hps, he, hass]
    refine L_reg [1, 4, 5, 6, 18] (fun K hK => ?_)
    simp [psEnv]
    apply hK; clear hK K
    refine L_reg [1, 4, 5, 6, 7] (fun K hK => ?_)
    simp
    apply hK; clear hK K
    refine ⟨rfl, .normal, L, g6, ?_⟩
    rw [hbody]
    generalize hHb : H'.set H3.length (.loop .busy .normal L) = Hb
    have hOff : ∀ j, j ≠ H3.length → Hb[j]? = H'[j]? := fun j hj => by rw [← hHb, set_ne (Ne.symm hj)]
    have c0 : Hb[q]? = _ := (hOff _ (by omega)).trans g3
    have c1 : Hb[q + 1]? = _ := ((hOff _ (by omega)).trans (g5 _ (by omega) (by omega) (by omega))).trans a1
    have c2 : Hb[q + 2]? = _ := (hOff _ (by omega)).trans g4
    have c3 : Hb[p]? = _ := ((hOff _ (by omega)).trans (g5 _ (by omega) (by omega) (by omega))).trans r3
    have br : Hb[H3.length]? = some (.loop .busy .normal L) := by rw [← hHb, List.getElem?_set_self (by omega)]
    have cb := Bx.row c3
    have e1 : ld Hb (q + 1) 0 0 = some (.slice (some q) 0 l.length 0 1 false) := by rw [ld_row c1]; rfl
    generalize hws : l.map (markN m s) = ws at *
    have hen : (ws.drop (i + 1)).headD m ≤ m := by
      cases hdd : ws.drop (i + 1) with
      | nil => exact Nat.le_refl _
      | cons y ys =>
        show y ≤ m
        have : y ∈ ws := List.mem_of_mem_drop (by rw [hdd]; simp)
        rw [← hws] at this
        obtain ⟨x, -, rfl⟩ := List.mem_map.1 this
        exact Nat.le_of_lt (Nat.mod_lt _ (by omega))
    have e2 : ld Hb (q + 2) 0 0 = some (.int .i64 ((ws.drop (i + 1)).headD m : Nat)) := by rw [ld_row c2]; rfl
    have hst := store_row (P := Try.prog) (u := 3) (p := i) sc3 (x := .int .i64 (((ws.drop (i + 1)).headD m : Nat) - (k * s % m : Nat) : Int)) (y := .int .i64 0) rfl c0 (by simp [List.getElem?_append_left])
    have hset : ((List.replicate (i + 1) (0 : Int) ++ gapL m (ws.drop (i + 1))).map (AV.int .i64)).set i (.int .i64 (((ws.drop (i + 1)).headD m : Nat) - (k * s % m : Nat) : Int)) = (List.replicate i (0 : Int) ++ gapL m (ws.drop i)).map (.int .i64) := by
      rw [hd, gapL, hmk, List.replicate_succ']
      simp [List.set_append_right]
    rw [hset, Nat.zero_min] at hst
    generalize hcs : (List.replicate i (0 : Int) ++ gapL m (ws.drop i)).map (AV.int .i64) = cs at hst
    have hhead : (ws.drop i).headD m = k * s % m := by rw [hd, hmk]; rfl
    rw [hk]
    clear hset
    generalize hgap : (ws.drop (i + 1)).headD m = en at hst e2 hen c2
    generalize hmw : k * s % m = w at *
    refine L_block ?_
    refine L_regW mixed 8 [1, 5, 7] (by kernel_rfl) (fun K hK => ?_)
    simp [okFn_low, e1, e2, cb.la]
    refine exX_mk (fun Q hQ => mark_ac m s k t (by omega) (by omega) Hb Q (by rw [hmw]; exact hQ)) (.refl _) ?_
    simp [wrap_i64 (a := (en : Int) - w) (by omega), hi, hst]
    apply hK; clear hK K
    have d0 := get_set (o' := AObj.row cs 0 0 false) c0
    generalize hHc : Hb.set q (AObj.row cs 0 0 false) = Hc at d0 ⊢
    have hOc : ∀ j, j ≠ q → Hc[j]? = Hb[j]? := fun j hj => by rw [← hHc, set_ne (Ne.symm hj)]
    have db := Bx.row ((hOc p (by omega)).trans c3)
    have d2 : Hc[q + 2]? = _ := (hOc _ (by omega)).trans c2
    have hst2 := store_row (P := Try.prog) (u := 3) (p := 0) sc3 (x := .int .i64 (w : Int)) (y := .int .i64 (en : Int)) rfl d2 rfl
    have hlenc : Hc.length = H'.length := by rw [← hHc, ← hHb]; simp
    refine L_reg [] (fun K hK => ?_)
    simp [okFn_low, db.la]
    refine mark_ac m s k t (by omega) (by omega) _ _ ?_
    simp [hmw, hst2]
    apply hK; clear hK K
    refine ⟨.busy, .normal, L, by rw [set_ne (by omega), hOc _ (by omega)]; exact br, rfl, by omega, by simp; omega, ?_, ⟨0, ?_⟩, fun j hj1 hj2 hj3 => ?_, ?_⟩
    · rw [set_ne (by omega), set_ne (by omega)]; exact d0
    · rw [set_ne (by omega), get_set d2, hhead]
    · rw [set_ne (by omega), set_ne (by omega), hOc _ hj2, hOff _ (by omega), g5 _ hj1 hj2 hj3]
    · simp only [if_true]
      rw [List.getElem?_set_self (by simp; omega)]
  · refine ⟨Nat.le_refl _, by simp, ?_, ⟨0, ?_⟩, fun j h1 _ _ => hin j h1, hr0⟩
    · rw [hin _ (by omega), a0, List.drop_of_length_le (by simp)]; simp [gapL]
    · rw [hin _ (by omega), a2, List.drop_of_length_le (by simp)]; rfl
  · rintro H' ⟨g1, g2, g3, ⟨st, g4⟩, g5, g6⟩
    refine ⟨.ready, .normal, L, g6, by simp, ?_⟩
    show AWL _ _ _ _ _ _
    have k1 : (H'.set H3.length (.loop .exhausted .normal L))[q + 1]? = _ := (set_ne (by omega)).trans ((g5 _ (by omega) (by omega) (by omega)).trans a1)
    have k0 : (H'.set H3.length (.loop .exhausted .normal L))[q]? = _ := (set_ne (by omega)).trans g3
    have e1 : ld (H'.set H3.length (.loop .exhausted .normal L)) (q + 1) 0 0 = some (.slice (some q) 0 l.length 0 1 false) := by rw [ld_row k1]; rfl
    refine L_reg [2] (fun K hK => ?_)
    simp [e1]
    apply hK; clear hK K
    exact L_ret ⟨.inr rfl, _, rfl, h _ _ (.inr ⟨q, 0, 0, by omega, by simp [gapL_len], by simpa using k0⟩) ⟨by simp; omega, fun j hj => by rw [set_ne (by omega), g5 j (by omega) (by omega) (by omega), hE03.2 j hj]⟩⟩
end Go.Proofs.Ytjfmiohgkcjdnaa

/- Lists that are mixed between two places. -/
namespace Go.Proofs.Ytjfmiohgkcjdnaa
open Go Go.Proofs.Ytjfmiohgkcjdnaa.AX

/-- What a temporary that is called calls. -/
def callW (P : Program) (v : AV) (xs : List AV) : Option (FuncId × List AV) := match v with
  | .func (.func f) first cap => if okFn P f then some (f, first ++ xs ++ cap) else none
  | _ => none
@[simp] theorem callW_f {P : Program} {f : FuncId} {first cap xs : List AV} : callW P (.func (.func f) first cap) xs = if okFn P f then some (f, first ++ xs ++ cap) else none := rfl
@[simp] theorem opcall_tmp {P : Program} {e : Env} {t : Tmp} {xs : Array Operand} {ts : Array TypeId} : opCall P (oval e) (.call ⟨.value (.tmp t), xs, ts⟩) = callW P (eget e t) (xs.toList.map (oval e)) := by
  simp only [opCall, oval, callW]
  cases eget e t <;> rfl

/-- All rows but one are as they were. -/
def KeepX (r : Nat) (H H' : AH) : Prop := H.length ≤ H'.length ∧ ∀ j : Nat, j ≠ r → j < H.length → H'[j]? = H[j]?
theorem KeepX.refl (r : Nat) (H : AH) : KeepX r H H := ⟨Nat.le_refl _, fun _ _ _ => rfl⟩
theorem KeepX.ext {r : Nat} {A B C : AH} (h : KeepX r A B) (k : Ext B C) : KeepX r A C := ⟨Nat.le_trans h.1 k.1, fun j h1 h2 => by rw [k.2 j (by have := h.1; omega), h.2 j h1 h2]⟩
theorem KeepX.set {r : Nat} {A B : AH} (h : KeepX r A B) (o : AObj) : KeepX r A (B.set r o) := ⟨by simpa using h.1, fun j h1 h2 => by rw [List.getElem?_set_ne (Ne.symm h1), h.2 j h1 h2]⟩
theorem KeepX.row {r : Nat} {H H' : AH} (h : KeepX r H H') {j : Nat} {o : AObj} (hj : j ≠ r) (ho : H[j]? = some o) : H'[j]? = some o := by
  rw [h.2 j hj (List.getElem?_eq_some_iff.1 ho).1]; exact ho
theorem KeepX.trans {r : Nat} {A B C : AH} (h : KeepX r A B) (k : KeepX r B C) : KeepX r A C := ⟨Nat.le_trans h.1 k.1, fun j h1 h2 => by rw [k.2 j h1 (by have := h.1; omega), h.2 j h1 h2]⟩

/-! ### Lists -/
def g (c : List Int) (i : Nat) : Int := c.getD i 0
theorem g_lt {c : List Int} {i : Nat} (h : i < c.length) : g c i = c[i] := by simp [g, List.getD_eq_getElem?_getD, h]
def sw (c : List Int) (i j : Nat) : List Int := (c.set i (g c j)).set j (g c i)
theorem sw_len (c : List Int) (i j : Nat) : (sw c i j).length = c.length := by simp [sw]
theorem g_sw {c : List Int} {i j : Nat} (hi : i < c.length) (hj : j < c.length) (k : Nat) : g (sw c i j) k = if k = j then g c i else if k = i then g c j else g c k := by
  unfold sw
  unfold g
  simp only [List.getD_eq_getElem?_getD, List.getElem?_set, List.length_set]
  by_cases h1 : k = j
  · subst h1; simp [hj]
  · by_cases h2 : k = i
    · subst h2; simp [h1, hi, Ne.symm h1]
    · simp [Ne.symm h1, Ne.symm h2, h1, h2]
theorem sw_j {c : List Int} {i j : Nat} (hi : i < c.length) (hj : j < c.length) : g (sw c i j) j = g c i := by rw [g_sw hi hj, if_pos rfl]
theorem sw_i {c : List Int} {i j : Nat} (hi : i < c.length) (hj : j < c.length) : g (sw c i j) i = g c j := by
  rw [g_sw hi hj]
  by_cases h : i = j
  · rw [if_pos h, h]
  · rw [if_neg h, if_pos rfl]
theorem sw_o {c : List Int} {i j k : Nat} (hi : i < c.length) (hj : j < c.length) (h1 : k ≠ i) (h2 : k ≠ j) : g (sw c i j) k = g c k := by rw [g_sw hi hj, if_neg h2, if_neg h1]
theorem sw_perm {c : List Int} {i j : Nat} (hi : i < c.length) (hj : j < c.length) : (sw c i j).Perm c := by
  have h := Array.swap_perm (xs := c.toArray) (i := i) (j := j) (by simpa using hi) (by simpa using hj)
  have h2 := h.toList
  simp only [Array.swap, Array.toList_set] at h2
  have e1 : g c j = c[j] := g_lt hj
  have e2 : g c i = c[i] := g_lt hi
  simpa [sw, e1, e2] using h2
/-- Mixed between a and b. -/
def Shuf (a b : Nat) (c m : List Int) : Prop := m.Perm c ∧ ∀ k, k < a ∨ b ≤ k → g m k = g c k
theorem Shuf.refl (a b : Nat) (c : List Int) : Shuf a b c c := ⟨.refl _, fun _ _ => rfl⟩
theorem Shuf.len {a b : Nat} {c m : List Int} (h : Shuf a b c m) : m.length = c.length := h.1.length_eq
theorem Shuf.trans {a b : Nat} {c d m : List Int} (h : Shuf a b c d) (k : Shuf a b d m) : Shuf a b c m := ⟨k.1.trans h.1, fun i hi => by rw [k.2 i hi, h.2 i hi]⟩
theorem Shuf.wide {a b a' b' : Nat} {c m : List Int} (h : Shuf a b c m) (h1 : a' ≤ a) (h2 : b ≤ b') : Shuf a' b' c m := ⟨h.1, fun i hi => h.2 i (by omega)⟩
theorem Shuf.swap {a b i j : Nat} {c : List Int} (hb : b ≤ c.length) (hi : a ≤ i ∧ i < b) (hj : a ≤ j ∧ j < b) : Shuf a b c (sw c i j) :=
  ⟨sw_perm (by omega) (by omega), fun k hk => by rw [g_sw (by omega) (by omega), if_neg (by omega), if_neg (by omega)]⟩
def mid (a b : Nat) (c : List Int) : List Int := (c.drop a).take (b - a)
theorem mid_mem {a b : Nat} {c : List Int} (hb : b ≤ c.length) {x : Int} : x ∈ mid a b c ↔ ∃ k, a ≤ k ∧ k < b ∧ g c k = x := by
  unfold mid
  constructor
  · intro h
    obtain ⟨i, hi, rfl⟩ := List.mem_iff_getElem.1 h
    simp at hi
    exact ⟨a + i, by omega, by omega, by rw [g_lt (by omega)]; simp⟩
  · rintro ⟨k, h1, h2, rfl⟩
    rw [g_lt (by omega)]
    exact List.mem_iff_getElem.2 ⟨k - a, by simp; omega, by simp; congr 1; omega⟩
theorem Shuf.mid {a b : Nat} {c m : List Int} (h : Shuf a b c m) (hab : a ≤ b) (hb : b ≤ c.length) : (mid a b m).Perm (mid a b c) := by
  have hl := h.len
  have split : ∀ l : List Int, l = l.take a ++ (Go.Proofs.Ytjfmiohgkcjdnaa.mid a b l ++ l.drop b) := by
    intro l
    unfold Go.Proofs.Ytjfmiohgkcjdnaa.mid
    have : l.drop b = (l.drop a).drop (b - a) := by rw [List.drop_drop]; congr 1; omega
    rw [this, List.take_append_drop, List.take_append_drop]
  have e1 : m.take a = c.take a := by
    apply List.ext_getElem (by simp [hl])
    intro i h1 h2
    simp at h1 h2
    have := h.2 i (by omega)
    rw [g_lt (by omega), g_lt (by omega)] at this
    simpa using this
  have e2 : m.drop b = c.drop b := by
    apply List.ext_getElem (by simp [hl])
    intro i h1 h2
    simp at h1 h2
    have := h.2 (b + i) (by omega)
    rw [g_lt (by omega), g_lt (by omega)] at this
    simpa using this
  have hp := h.1
  rw [split m, split c, e1, e2] at hp
  exact (List.perm_append_right_iff _).1 ((List.perm_append_left_iff _).1 hp)
/-- What holds of all between, holds of all when they are mixed. -/
theorem Shuf.all {a b : Nat} {c m : List Int} (h : Shuf a b c m) (hb : b ≤ c.length) {p : Int → Prop} (hp : ∀ k, a ≤ k → k < b → p (g c k)) : ∀ k, a ≤ k → k < b → p (g m k) := by
  intro k h1 h2
  have hm : g m k ∈ Go.Proofs.Ytjfmiohgkcjdnaa.mid a b m := (mid_mem (by have := h.len; omega)).2 ⟨k, h1, h2, rfl⟩
  obtain ⟨k', h3, h4, h5⟩ := (mid_mem hb).1 ((h.mid (by omega) hb).mem_iff.1 hm)
  rw [← h5]; exact hp k' h3 h4

/-! ### Rows of integers -/
def Rw (r ver : Nat) (H : AH) (c : List Int) : Prop := ∃ s, H[r]? = some (.row (c.map (.int .i64)) ver s false)
theorem Rw.ld {r ver i : Nat} {H : AH} {c : List Int} (h : Rw r ver H c) (hi : i < c.length) : AX.ld H r i ver = some (.int .i64 (g c i)) := by
  obtain ⟨s, h⟩ := h
  rw [ld_row h, g_lt hi]; simp [hi]
theorem Rw.ext {r ver : Nat} {H H' : AH} {c : List Int} (h : Rw r ver H c) (hE : Ext H H') : Rw r ver H' c := by
  obtain ⟨s, h⟩ := h
  exact ⟨s, hE.row h⟩
theorem Rw.swap {r ver i j : Nat} {H : AH} {c : List Int} (h : Rw r ver H c) (hi : i < c.length) (hj : j < c.length) :
    ∃ H1 H2, storeV Try.prog 3 H (.ptr r i ver) (.int .i64 (g c j)) = some (none, H1) ∧ storeV Try.prog 3 H1 (.ptr r j ver) (.int .i64 (g c i)) = some (none, H2) ∧ Rw r ver H2 (sw c i j) ∧ KeepX r H H2 := by
  obtain ⟨s, h⟩ := h
  have h1 := store_row (P := Try.prog) (u := 3) (p := i) sc3 (x := .int .i64 (g c j)) (y := .int .i64 c[i]) rfl h (by simp [hi])
  have e1 : (c.map (AV.int .i64)).set i (.int .i64 (g c j)) = (c.set i (g c j)).map (.int .i64) := by rw [List.map_set]
  rw [e1] at h1
  have hr1 := get_set (o' := .row ((c.set i (g c j)).map (.int .i64)) ver (min s i) false) h
  have h2 := store_row (P := Try.prog) (u := 3) (p := j) sc3 (x := .int .i64 (g c i)) (y := .int .i64 ((c.set i (g c j))[j]'(by simpa using hj))) rfl hr1 (by rw [List.getElem?_map, List.getElem?_eq_getElem (by simpa using hj)]; rfl)
  have e2 : ((c.set i (g c j)).map (AV.int .i64)).set j (.int .i64 (g c i)) = (sw c i j).map (.int .i64) := by rw [← List.map_set]; rfl
  rw [e2] at h2
  exact ⟨_, _, h1, h2, ⟨_, get_set hr1⟩, ((KeepX.refl r H).set _).set _⟩
end Go.Proofs.Ytjfmiohgkcjdnaa

/- Sorting by a comparison: a short part is sorted in its row. -/
namespace Go.Proofs.Ytjfmiohgkcjdnaa
open Go Go.Proofs.Ytjfmiohgkcjdnaa.AX

/-- What a comparison says. -/
def cmpS (a b : Int) : Int := if a < b then -1 else if b < a then 1 else 0
theorem cmpS_neg {a b : Int} : cmpS a b < 0 ↔ a < b := by unfold cmpS; split <;> (try split) <;> omega
/-- A function that compares by κ what is in D, as long as rows other than r stay. -/
def Cmp (f : FuncId) (caps : List AV) (D : Int → Prop) (κ : Int → Int) (r : Nat) (H : AH) : Prop :=
  okFn Try.prog f = true ∧ ∀ H', KeepX r H H' → ∀ x y, D x → D y → ∀ Q : AV → AH → Prop, Q (.int .i64 (cmpS (κ x) (κ y))) H' → AC Try.prog f ([] ++ [.int .i64 x, .int .i64 y] ++ caps) H' Q
theorem Cmp.keep {f : FuncId} {caps : List AV} {D : Int → Prop} {κ : Int → Int} {r : Nat} {H H1 : AH} (h : Cmp f caps D κ r H) (hK : KeepX r H H1) : Cmp f caps D κ r H1 := ⟨h.1, fun H' h1 => h.2 H' (hK.trans h1)⟩
/-- Sorted between a and b. -/
def Srt (κ : Int → Int) (a b : Nat) (c : List Int) : Prop := ∀ p q, a ≤ p → p < q → q < b → κ (g c p) ≤ κ (g c q)
def All (D : Int → Prop) (c : List Int) : Prop := ∀ i, i < c.length → D (g c i)
theorem All.perm {D : Int → Prop} {c m : List Int} (h : All D c) (hp : m.Perm c) : All D m := by
  intro i hi
  have : m[i] ∈ c := hp.mem_iff.1 (by simp)
  obtain ⟨j, hj, e⟩ := List.mem_iff_getElem.1 this
  rw [g_lt hi, ← e, ← g_lt hj]; exact h j hj
set_option maxRecDepth 100000 in
theorem insertion_ac (f : FuncId) (caps : List AV) (D : Int → Prop) (κ : Int → Int) (r ver a b : Nat) (c : List Int) (H : AH) (Q : AV → AH → Prop) (hC : Cmp f caps D κ r H) (hr : Rw r ver H c) (hD : All D c) (hl : c.length ≤ 1000000) (hab : a ≤ b) (hb : b ≤ c.length)
    (h : ∀ (H' : AH) (m : List Int), Shuf a b c m → Srt κ a b m → Rw r ver H' m → KeepX r H H' → Q (.tuple []) H') : AC Try.prog 99 [.slice (some r) 0 c.length ver 1 false, .int .i64 a, .int .i64 b, .func (.func f) [] caps] H Q := by
  refine L_body 53 Try.func99 rfl rfl ?_
  generalize hn : c.length = n at *
  refine L_reg [0, 1, 2, 3, 8] (fun K hK => ?_)
  simp [wrap_i64 (a := (a : Int) + 1) (by omega)]
  apply hK; clear hK K
  refine L_block (L_loopV [8] (fun k vs H' => ∃ (i : Nat) (d : List Int), k = n - i ∧ a + 1 ≤ i ∧ i ≤ max (a + 1) b ∧ Shuf a b c d ∧ Srt κ a i d ∧ vs = [.int .i64 i] ∧ Rw r ver H' d ∧ KeepX r H H') _ [.int .i64 (a + 1 : Nat)] rfl ⟨a + 1, c, rfl, by omega, by omega, .refl _ _ _, fun p q h1 h2 h3 => by omega, rfl, hr, .refl r H⟩ ?_)
  rintro k _ H1 ⟨i, d, rfl, hi1, hi2, hS, ho, rfl, hrow, hK⟩
  refine L_reg [0, 1, 2, 3, 8, 14] (fun K hK => ?_)
  simp
  apply hK; clear hK K
  refine L_dec (i < b) (by simp) (fun hlt => ?_) (fun hge => L_exit ?_)
  · refine L_block ?_
    refine L_reg [0, 1, 2, 3, 8, 9] (fun K hK => ?_)
    simp
    apply hK; clear hK K
    refine L_block (L_loopV [9] (fun k vs H' => ∃ (j : Nat) (d : List Int), k = j ∧ a ≤ j ∧ j ≤ i ∧ Shuf a b c d ∧ (∀ p q, a ≤ p → p < q → q ≤ i → q ≠ j → κ (g d p) ≤ κ (g d q)) ∧ vs = [.int .i64 j] ∧ Rw r ver H' d ∧ KeepX r H H') _ [.int .i64 i] rfl ⟨i, d, rfl, by omega, by omega, hS, fun p q h1 h2 h3 h4 => ho p q h1 h2 (by omega), rfl, hrow, hK⟩ ?_)
    clear hS ho hrow hK d H1
    rintro k _ H1 ⟨j, d, rfl, haj, hj, hS, ho, rfl, hrow, hK⟩
    have hdl : d.length = n := by rw [hS.len]; exact hn
    have hdD := hD.perm hS.1
    by_cases hk : a < k
    · obtain ⟨j, rfl⟩ : ∃ j, k = j + 1 := ⟨k - 1, by omega⟩
      have hx := hrow.ld (i := j + 1) (by omega)
      have hy := hrow.ld (i := j) (by omega)
      have hw : IntKind.i64.wrap (j : Int) = (j : Int) := wrap_i64 (by omega)
      have hi1' : ((j : Int) + 1).toNat = j + 1 := by omega
      have g1 : (0 : Int) ≤ (j : Int) + 1 := by omega
      have g2 : (j : Int) + 1 < (n : Int) := by omega
      have g3 : j < n := by omega
      have g4 : (a : Int) < (j : Int) + 1 := by omega
      have hx0 := hdD (j + 1) (by omega)
      have hy0 := hdD j (by omega)
      have hCk := hC.keep hK
      refine L_regT mixed [0, 1, 2, 3, 8, 9, 34] (by kernel_rfl) (fun K hK => ?_)
      simp [hw, hi1', g1, g2, g3, g4, hx, hy, hCk.1]
      refine exC_mk (fun Q hQ => hCk.2 H1 (.refl _ _) _ _ hx0 hy0 Q hQ) ?_
      simp [pickV]
      apply hK; clear hK K
      by_cases hyx : κ (g d (j + 1)) < κ (g d j)
      · have hneg := cmpS_neg.2 hyx
        refine L_true (by simp [hneg]) ?_
        obtain ⟨H2, H3, e1, e2, e3, e4⟩ := hrow.swap (i := j + 1) (j := j) (by omega) (by omega)
        refine L_block ?_
        refine L_regT mixed [0, 1, 2, 3, 8, 9] (by kernel_rfl) (fun K hK => ?_)
        simp [hw, hi1', g1, g2, g3, hx, hy, e1, e2]
        apply hK; clear hK K
        refine L_reg [0, 1, 2, 3, 8, 9] (fun K hK => ?_)
        simp [hw]
        apply hK; clear hK K
        refine ⟨j, [.int .i64 (j : Nat)], by omega, by simp, j, _, rfl, by omega, by omega, hS.trans (.swap (by omega) (by omega) (by omega)), fun p q h1 h2 h3 h4 => ?_, rfl, e3, hK.trans e4⟩
        have w0 := sw_i (c := d) (i := j + 1) (j := j) (by omega) (by omega)
        have w1 := sw_j (c := d) (i := j + 1) (j := j) (by omega) (by omega)
        have w2 := fun (k : Nat) (k1 : k ≠ j + 1) (k2 : k ≠ j) => sw_o (c := d) (i := j + 1) (j := j) (by omega) (by omega) k1 k2
        by_cases q1 : q = j + 1
        · subst q1
          by_cases p1 : p = j
          · subst p1; rw [w0, w1]; omega
          · rw [w0, w2 p (by omega) p1]
            exact ho p j h1 (by omega) (by omega) (by omega)
        · rw [w2 q q1 h4]
          by_cases p1 : p = j
          · subst p1; rw [w1]
            exact ho (p + 1) q (by omega) (by omega) h3 (by omega)
          · by_cases p2 : p = j + 1
            · subst p2; rw [w0]
              exact ho j q (by omega) (by omega) h3 (by omega)
            · rw [w2 p p2 p1]
              exact ho p q h1 h2 h3 (by omega)
      · have hneg : ¬ cmpS (κ (g d (j + 1))) (κ (g d j)) < 0 := fun h => hyx (cmpS_neg.1 h)
        refine L_false (by simp; omega) (L_exit ?_)
        refine L_reg [0, 1, 2, 3, 8] (fun K hK => ?_)
        simp [wrap_i64 (a := (i : Int) + 1) (by omega)]
        apply hK; clear hK K
        refine ⟨n - (i + 1), [.int .i64 (i + 1 : Nat)], by omega, by simp, i + 1, _, rfl, by omega, by omega, hS, fun p q h1 h2 h3 => ?_, rfl, hrow, hK⟩
        by_cases q1 : q = j + 1
        · subst q1
          by_cases p1 : p = j
          · subst p1; omega
          · have := ho p j h1 (by omega) (by omega) (by omega)
            omega
        · exact ho p q h1 h2 (by omega) q1
    · have hka : k = a := by omega
      subst hka
      refine L_regT mixed [0, 1, 2, 3, 8, 9, 34] (by kernel_rfl) (fun K hK => ?_)
      simp [pickV]
      apply hK; clear hK K
      refine L_false (by simp) (L_exit ?_)
      refine L_reg [0, 1, 2, 3, 8] (fun K hK => ?_)
      simp [wrap_i64 (a := (i : Int) + 1) (by omega)]
      apply hK; clear hK K
      exact ⟨n - (i + 1), [.int .i64 (i + 1 : Nat)], by omega, by simp, i + 1, _, rfl, by omega, by omega, hS, fun p q h1 h2 h3 => ho p q h1 h2 (by omega) (by omega), rfl, hrow, hK⟩
  · have hbi : b ≤ i := by omega
    refine ⟨.inl rfl, _, rfl, h H1 d hS (fun p q h1 h2 h3 => ho p q h1 h2 (by omega)) hrow hK⟩
end Go.Proofs.Ytjfmiohgkcjdnaa

/- Sorting by a comparison: a part is turned round; a pivot is chosen. -/
namespace Go.Proofs.Ytjfmiohgkcjdnaa
open Go Go.Proofs.Ytjfmiohgkcjdnaa.AX

set_option maxRecDepth 100000 in
theorem reverse_ac (cv : AV) (r ver a b : Nat) (c : List Int) (H : AH) (Q : AV → AH → Prop) (hr : Rw r ver H c) (hl : c.length ≤ 1000000) (hab : a < b) (hb : b ≤ c.length)
    (h : ∀ (H' : AH) (m : List Int), Shuf a b c m → Rw r ver H' m → KeepX r H H' → Q (.tuple []) H') : AC Try.prog 103 [.slice (some r) 0 c.length ver 1 false, .int .i64 a, .int .i64 b, cv] H Q := by
  obtain ⟨b, rfl⟩ : ∃ b', b = b' + 1 := ⟨b - 1, by omega⟩
  refine L_body 34 Try.func103 rfl rfl ?_
  refine L_reg [0, 2, 8] (fun K hK => ?_)
  simp
  apply hK; clear hK K
  have hw : IntKind.i64.wrap (b : Int) = (b : Int) := wrap_i64 (by omega)
  refine L_reg [0, 8, 9] (fun K hK => ?_)
  simp [hw]
  apply hK; clear hK K
  generalize hn : c.length = n at *
  refine L_block (L_loopV [8, 9] (fun k vs H' => ∃ (i j : Nat) (d : List Int), k = j + 1 - i ∧ a ≤ i ∧ j ≤ b ∧ Shuf a (b + 1) c d ∧ vs = [.int .i64 i, .int .i64 j] ∧ Rw r ver H' d ∧ KeepX r H H') _ [.int .i64 a, .int .i64 b] rfl ⟨a, b, c, rfl, by omega, by omega, .refl _ _ _, rfl, hr, .refl r H⟩ ?_)
  rintro k _ H1 ⟨i, j, d, rfl, hi, hj, hS, rfl, hrow, hK⟩
  refine L_reg [0, 8, 9, 15] (fun K hK => ?_)
  simp
  apply hK; clear hK K
  have hdl : d.length = n := by rw [hS.len]; exact hn
  refine L_dec (i < j) (by simp) (fun hlt => ?_) (fun hge => L_exit ?_)
  · obtain ⟨j, rfl⟩ : ∃ j', j = j' + 1 := ⟨j - 1, by omega⟩
    have hx := hrow.ld (i := i) (by omega)
    have hy := hrow.ld (i := j + 1) (by omega)
    obtain ⟨H2, H3, e1, e2, e3, e4⟩ := hrow.swap (i := i) (j := j + 1) (by omega) (by omega)
    have g1 : i < n := by omega
    have g2 : (j : Int) + 1 < n := by omega
    have g3 : (0 : Int) ≤ (j : Int) + 1 := by omega
    have g4 : ((j : Int) + 1).toNat = j + 1 := by omega
    refine L_block ?_
    refine L_regT mixed [0, 8, 9] (by kernel_rfl) (fun K hK => ?_)
    simp [g1, g2, g3, g4, hx, hy, e1, e2]
    apply hK; clear hK K
    refine L_reg [0, 8, 9] (fun K hK => ?_)
    simp [wrap_i64 (a := (i : Int) + 1) (by omega)]
    apply hK; clear hK K
    refine L_reg [0, 8, 9] (fun K hK => ?_)
    simp [wrap_i64 (a := (j : Int)) (by omega)]
    apply hK; clear hK K
    exact ⟨j + 1 - (i + 1), [.int .i64 (i + 1 : Nat), .int .i64 j], by omega, by simp, i + 1, j, _, rfl, by omega, by omega, hS.trans (.swap (by omega) (by omega) (by omega)), rfl, e3, hK.trans e4⟩
  · exact ⟨.inl rfl, _, rfl, h H1 d hS hrow hK⟩

/-- What stands while a pivot is chosen: the row, and how often two were out of order. -/
structure Piv (r ver sp : Nat) (B : AH) (c : List Int) (k : Nat) (H : AH) : Prop where
  keep : KeepX r B H
  row : Rw r ver H c
  lt : B.length ≤ sp
  ne : r ≠ sp
  cnt : ∃ s st : Nat, s ≤ k ∧ H[sp]? = some (.row [.int .i64 s] 0 st false)
theorem Piv.mono {r ver sp k k' : Nat} {B H : AH} {c : List Int} (h : Piv r ver sp B c k H) (hk : k ≤ k') : Piv r ver sp B c k' H :=
  ⟨h.keep, h.row, h.lt, h.ne, let ⟨s, st, h1, h2⟩ := h.cnt; ⟨s, st, by omega, h2⟩⟩
set_option maxRecDepth 100000 in
theorem order2_ac (f : FuncId) (caps : List AV) (D : Int → Prop) (κ : Int → Int) (r ver sp a b k : Nat) (c : List Int) (B H : AH) (Q : AV → AH → Prop) (hC : Cmp f caps D κ r B) (hP : Piv r ver sp B c k H) (hk : k ≤ 1000) (hD : All D c) (_hl : c.length ≤ 1000000) (ha : a < c.length) (hb : b < c.length)
    (h : ∀ (H' : AH) (x y : Nat), (x = a ∧ y = b) ∨ (x = b ∧ y = a) → Piv r ver sp B c (k + 1) H' → Q (.tuple [.int .i64 x, .int .i64 y]) H') : AC Try.prog 126 [.slice (some r) 0 c.length ver 1 false, .int .i64 a, .int .i64 b, .ptr sp 0 0, .func (.func f) [] caps] H Q := by
  refine L_body 32 Try.func126 rfl rfl ?_
  refine L_reg [0, 1, 2, 3, 4] (fun K hK => ?_)
  simp
  apply hK; clear hK K
  have hx := hP.row.ld ha
  have hy := hP.row.ld hb
  have hCk := hC.keep hP.keep
  refine L_regT mixed [1, 2, 3, 22] (by kernel_rfl) (fun K hK => ?_)
  simp [ha, hb, hx, hy, hCk.1]
  refine exC_mk (fun Q hQ => hCk.2 H (.refl _ _) _ _ (hD b hb) (hD a ha) Q hQ) ?_
  simp
  apply hK; clear hK K
  obtain ⟨s, st, hs, hrow⟩ := hP.cnt
  refine L_dec (cmpS (κ (g c b)) (κ (g c a)) < 0) (by simp) (fun hlt => ?_) (fun hge => ?_)
  · have e1 : ld H sp 0 0 = some (.int .i64 s) := by rw [ld_row hrow]; rfl
    have e2 := store_row (P := Try.prog) (u := 3) (p := 0) sc3 (x := .int .i64 ((s : Int) + 1)) (y := .int .i64 s) rfl hrow rfl
    refine L_reg [1, 2] (fun K hK => ?_)
    simp [aNil, e1, wrap_i64 (a := (s : Int) + 1) (by omega), e2]
    apply hK; clear hK K
    refine L_reg [10, 11] (fun K hK => ?_)
    simp
    apply hK; clear hK K
    exact L_ret ⟨.inr rfl, _, rfl, h _ b a (.inr ⟨rfl, rfl⟩) ⟨⟨by simpa using hP.keep.1, fun j h1 h2 => by rw [set_ne (by have := hP.lt; omega)]; exact hP.keep.2 j h1 h2⟩, (let ⟨s', h'⟩ := hP.row; ⟨s', by rw [set_ne (Ne.symm hP.ne)]; exact h'⟩), hP.lt, hP.ne, s + 1, _, by omega, by rw [get_set hrow]; rfl⟩⟩
  · refine L_reg [10, 11] (fun K hK => ?_)
    simp
    apply hK; clear hK K
    exact L_ret ⟨.inr rfl, _, rfl, h _ a b (.inl ⟨rfl, rfl⟩) (hP.mono (by omega))⟩
theorem median_ac (f : FuncId) (caps : List AV) (D : Int → Prop) (κ : Int → Int) (r ver sp a b d k : Nat) (c : List Int) (B H : AH) (Q : AV → AH → Prop) (hC : Cmp f caps D κ r B) (hP : Piv r ver sp B c k H) (hk : k ≤ 900) (hD : All D c) (hl : c.length ≤ 1000000) (ha : a < c.length) (hb : b < c.length) (hd : d < c.length)
    (h : ∀ (H' : AH) (x : Nat), x = a ∨ x = b ∨ x = d → Piv r ver sp B c (k + 3) H' → Q (.int .i64 x) H') : AC Try.prog 122 [.slice (some r) 0 c.length ver 1 false, .int .i64 a, .int .i64 b, .int .i64 d, .ptr sp 0 0, .func (.func f) [] caps] H Q := by
  refine L_body 41 Try.func122 rfl rfl ?_
  refine L_reg [0, 1, 2, 3, 4, 5] (fun K hK => ?_)
  simp
  apply hK; clear hK K
  refine L_reg [0, 1, 2, 3, 4, 5] (fun K hK => ?_)
  simp [okFn_low]
  refine order2_ac f caps D κ r ver sp a b k c B H _ hC hP (by omega) hD hl ha hb (fun H1 x y hxy hP1 => ?_)
  simp
  apply hK; clear hK K
  refine L_reg [0, 1, 2, 4, 5] (fun K hK => ?_)
  simp [okFn_low]
  refine order2_ac f caps D κ r ver sp y d (k + 1) c B H1 _ hC hP1 (by omega) hD hl (by omega) hd (fun H2 x2 y2 hxy2 hP2 => ?_)
  simp
  apply hK; clear hK K
  refine L_reg [2] (fun K hK => ?_)
  simp [okFn_low]
  refine order2_ac f caps D κ r ver sp x x2 (k + 2) c B H2 _ hC hP2 (by omega) hD hl (by omega) (by omega) (fun H3 x3 y3 hxy3 hP3 => ?_)
  simp
  apply hK; clear hK K
  refine L_reg [12] (fun K hK => ?_)
  simp
  apply hK; clear hK K
  exact L_ret ⟨.inr rfl, _, rfl, h _ y3 (by omega) hP3⟩
theorem medianAdj_ac (f : FuncId) (caps : List AV) (D : Int → Prop) (κ : Int → Int) (r ver sp a k : Nat) (c : List Int) (B H : AH) (Q : AV → AH → Prop) (hC : Cmp f caps D κ r B) (hP : Piv r ver sp B c k H) (hk : k ≤ 900) (hD : All D c) (hl : c.length ≤ 1000000) (ha : 1 ≤ a) (hb : a + 1 < c.length)
    (h : ∀ (H' : AH) (x : Nat), a ≤ x + 1 ∧ x ≤ a + 1 → Piv r ver sp B c (k + 3) H' → Q (.int .i64 x) H') : AC Try.prog 121 [.slice (some r) 0 c.length ver 1 false, .int .i64 a, .ptr sp 0 0, .func (.func f) [] caps] H Q := by
  obtain ⟨a, rfl⟩ : ∃ b', a = b' + 1 := ⟨a - 1, by omega⟩
  refine L_body 18 Try.func121 rfl rfl ?_
  refine L_reg [0, 1, 2, 3] (fun K hK => ?_)
  simp
  apply hK; clear hK K
  refine L_reg [8] (fun K hK => ?_)
  simp [okFn_low, wrap_i64 (a := (a : Int)) (by omega), wrap_i64 (a := (a : Int) + 1 + 1) (by omega)]
  refine median_ac f caps D κ r ver sp a (a + 1) (a + 1 + 1) k c B H _ hC hP hk hD hl (by omega) (by omega) (by omega) (fun H1 x hx hP1 => ?_)
  simp
  apply hK; clear hK K
  exact L_ret ⟨.inr rfl, _, rfl, h _ x (by omega) hP1⟩
end Go.Proofs.Ytjfmiohgkcjdnaa

/- Sorting by a comparison: a pivot. -/
namespace Go.Proofs.Ytjfmiohgkcjdnaa
open Go Go.Proofs.Ytjfmiohgkcjdnaa.AX

set_option maxRecDepth 100000 in
theorem pivot_ac (f : FuncId) (caps : List AV) (D : Int → Prop) (κ : Int → Int) (r ver a l : Nat) (c : List Int) (H : AH) (Q : AV → AH → Prop) (hC : Cmp f caps D κ r H) (hr : Rw r ver H c) (hrl : r < H.length) (hD : All D c) (hlen : c.length ≤ 1000000) (hl : 12 < l) (hb : a + l ≤ c.length)
    (h : ∀ (H' : AH) (x : Nat) (hint : Int), a ≤ x ∧ x < a + l → KeepX r H H' → Rw r ver H' c → Q (.tuple [.int .i64 x, .int .i64 hint]) H') : AC Try.prog 102 [.slice (some r) 0 c.length ver 1 false, .int .i64 a, .int .i64 (a + l : Nat), .func (.func f) [] caps] H Q := by
  refine L_body 63 Try.func102 rfl rfl ?_
  refine L_reg [0, 1, 2, 3] (fun K hK => ?_)
  simp
  apply hK; clear hK K
  have hq : ((l : Int)).tdiv 4 = ((l / 4 : Nat) : Int) := by rw [Int.tdiv_eq_ediv_of_nonneg (by omega)]; rfl
  obtain ⟨q, hq0⟩ : ∃ q, q = l / 4 := ⟨_, rfl⟩
  rw [← hq0] at hq
  obtain ⟨i, hi⟩ : ∃ i : Nat, (a : Int) + q = i := ⟨a + q, by omega⟩
  obtain ⟨j, hj⟩ : ∃ i : Nat, (a : Int) + (q : Int) * 2 = i := ⟨a + q * 2, by omega⟩
  obtain ⟨k, hk⟩ : ∃ i : Nat, (a : Int) + (q : Int) * 3 = i := ⟨a + q * 3, by omega⟩
  refine L_reg [0, 1, 3, 10] (fun K hK => ?_)
  simp [wrap_i64 (a := (l : Int)) (by omega), show ((a : Int) + l - a) = l by omega]
  apply hK; clear hK K
  refine L_reg [0, 1, 3, 10, 11] (fun K hK => ?_)
  simp [alloc_z zt3]
  apply hK; clear hK K
  have hP : Piv r ver H.length H c 0 (H ++ [.row [.int .i64 0] 0 0 false]) := ⟨(KeepX.refl r H).ext (.push _ _), hr.ext (.push _ _), Nat.le_refl _, by omega, 0, 0, Nat.le_refl _, by simp⟩
  generalize H ++ [AObj.row [.int .i64 0] 0 0 false] = H0 at hP ⊢
  generalize hsp : H.length = sp at hP ⊢
  refine L_reg [0, 1, 3, 10, 11, 12] (fun K hK => ?_)
  simp [hq, wrap_i64 (a := (q : Int)) (by omega), hi, wrap_i64 (a := (i : Int)) (by omega)]
  apply hK; clear hK K
  refine L_reg [0, 1, 3, 10, 11, 12, 13] (fun K hK => ?_)
  simp [hq, wrap_i64 (a := (q : Int)) (by omega), wrap_i64 (a := (q : Int) * 2) (by omega), hj, wrap_i64 (a := (j : Int)) (by omega)]
  apply hK; clear hK K
  refine L_reg [0, 3, 10, 11, 12, 13, 14] (fun K hK => ?_)
  simp [hq, wrap_i64 (a := (q : Int)) (by omega), wrap_i64 (a := (q : Int) * 3) (by omega), hk, wrap_i64 (a := (k : Int)) (by omega)]
  apply hK; clear hK K
  refine L_reg [0, 3, 10, 11, 12, 13, 14, 34] (fun K hK => ?_)
  simp
  apply hK; clear hK K
  refine L_true (by simp; omega) ?_
  refine L_reg [0, 3, 11, 12, 13, 14, 36] (fun K hK => ?_)
  simp
  apply hK; clear hK K
  refine L_dec (50 ≤ (l : Int)) (by simp) (fun h50 => ?_) (fun h50 => ?_)
  · refine L_reg [0, 3, 11, 12, 13, 14] (fun K hK => ?_)
    simp [okFn_low]
    refine medianAdj_ac f caps D κ r ver sp i 0 c H H0 _ hC hP (by omega) hD hlen (by omega) (by omega) (fun H1 x hx hP => ?_)
    simp
    apply hK; clear hK K
    refine L_reg [0, 3, 11, 12, 13, 14] (fun K hK => ?_)
    simp [okFn_low]
    refine medianAdj_ac f caps D κ r ver sp j _ c H H1 _ hC hP (by omega) hD hlen (by omega) (by omega) (fun H2 y hy hP => ?_)
    simp
    apply hK; clear hK K
    refine L_reg [0, 3, 11, 12, 13, 14] (fun K hK => ?_)
    simp [okFn_low]
    refine medianAdj_ac f caps D κ r ver sp k _ c H H2 _ hC hP (by omega) hD hlen (by omega) (by omega) (fun H3 z hz hP => ?_)
    simp
    apply hK; clear hK K
    refine L_reg [11, 13] (fun K hK => ?_)
    simp [okFn_low]
    refine median_ac f caps D κ r ver sp x y z _ c H H3 _ hC hP (by omega) hD hlen (by omega) (by omega) (by omega) (fun H4 w hw hP => ?_)
    simp
    apply hK; clear hK K
    obtain ⟨s, st, hs, hrow⟩ := hP.cnt
    have e1 : ld H4 sp 0 0 = some (.int .i64 s) := by rw [ld_row hrow]; rfl
    refine L_reg [13, 55] (fun K hK => ?_)
    simp [e1]
    apply hK; clear hK K
    refine L_block ?_
    refine L_reg [13, 55, 57] (fun K hK => ?_)
    simp
    apply hK; clear hK K
    refine L_split rfl (fun _ => ?_) (fun _ => ?_)
    · refine L_reg [8, 9] (fun K hK => ?_)
      simp
      apply hK; clear hK K
      exact L_ret ⟨.inr rfl, _, rfl, h _ w 1 (by omega) hP.keep hP.row⟩
    · refine L_reg [13, 60] (fun K hK => ?_)
      simp
      apply hK; clear hK K
      refine L_split rfl (fun _ => ?_) (fun _ => ?_)
      · refine L_reg [8, 9] (fun K hK => ?_)
        simp
        apply hK; clear hK K
        exact L_ret ⟨.inr rfl, _, rfl, h _ w 2 (by omega) hP.keep hP.row⟩
      · refine L_reg [8, 9] (fun K hK => ?_)
        simp
        apply hK; clear hK K
        exact L_ret ⟨.inr rfl, _, rfl, h _ w 0 (by omega) hP.keep hP.row⟩
  · refine L_reg [11, 13] (fun K hK => ?_)
    simp [okFn_low]
    refine median_ac f caps D κ r ver sp i j k _ c H H0 _ hC hP (by omega) hD hlen (by omega) (by omega) (by omega) (fun H4 w hw hP => ?_)
    simp
    apply hK; clear hK K
    obtain ⟨s, st, hs, hrow⟩ := hP.cnt
    have e1 : ld H4 sp 0 0 = some (.int .i64 s) := by rw [ld_row hrow]; rfl
    refine L_reg [13, 55] (fun K hK => ?_)
    simp [e1]
    apply hK; clear hK K
    refine L_block ?_
    refine L_reg [13, 55, 57] (fun K hK => ?_)
    simp
    apply hK; clear hK K
    refine L_split rfl (fun _ => ?_) (fun _ => ?_)
    · refine L_reg [8, 9] (fun K hK => ?_)
      simp
      apply hK; clear hK K
      exact L_ret ⟨.inr rfl, _, rfl, h _ w 1 (by omega) hP.keep hP.row⟩
    · refine L_reg [13, 60] (fun K hK => ?_)
      simp
      apply hK; clear hK K
      refine L_split rfl (fun _ => ?_) (fun _ => ?_)
      · refine L_reg [8, 9] (fun K hK => ?_)
        simp
        apply hK; clear hK K
        exact L_ret ⟨.inr rfl, _, rfl, h _ w 2 (by omega) hP.keep hP.row⟩
      · refine L_reg [8, 9] (fun K hK => ?_)
        simp
        apply hK; clear hK K
        exact L_ret ⟨.inr rfl, _, rfl, h _ w 0 (by omega) hP.keep hP.row⟩
end Go.Proofs.Ytjfmiohgkcjdnaa

/- Sorting by a comparison: parts by a pivot. -/
namespace Go.Proofs.Ytjfmiohgkcjdnaa
open Go Go.Proofs.Ytjfmiohgkcjdnaa.AX

set_option maxRecDepth 100000 in
theorem partEq_ac (f : FuncId) (caps : List AV) (D : Int → Prop) (κ : Int → Int) (r ver a b pv : Nat) (c : List Int) (H : AH) (Q : AV → AH → Prop) (hC : Cmp f caps D κ r H) (hr : Rw r ver H c) (hD : All D c) (hl : c.length ≤ 1000000) (hpa : a ≤ pv) (hpb : pv < b) (hb : b ≤ c.length)
    (h : ∀ (H' : AH) (m : List Int) (p : Nat), a < p → p ≤ b → Shuf a b c m → (∀ k, a ≤ k → k < p → κ (g m k) ≤ κ (g c pv)) → (∀ k, p ≤ k → k < b → κ (g c pv) < κ (g m k)) → Rw r ver H' m → KeepX r H H' → Q (.int .i64 p) H') : AC Try.prog 105 [.slice (some r) 0 c.length ver 1 false, .int .i64 a, .int .i64 b, .int .i64 pv, .func (.func f) [] caps] H Q := by
  refine L_body 90 Try.func105 rfl rfl ?_
  refine L_reg [0, 1, 2, 3, 4] (fun K hK => ?_)
  simp
  apply hK; clear hK K
  generalize hn : c.length = n at *
  obtain ⟨b0, rfl⟩ : ∃ b', b = b' + 1 := ⟨b - 1, by omega⟩
  generalize hb0 : b0 + 1 = b at *
  have hx0 := hr.ld (i := pv) (by omega)
  have hy0 := hr.ld (i := a) (by omega)
  obtain ⟨H2, H3, e1, e2, e3, e4⟩ := hr.swap (i := a) (j := pv) (by omega) (by omega)
  have ga : a < n := by omega
  have gp : pv < n := by omega
  refine L_regT mixed [0, 1, 2, 4] (by kernel_rfl) (fun K hK => ?_)
  simp [ga, gp, hx0, hy0, e1, e2]
  apply hK; clear hK K
  have hbi : (b : Int) - 1 = b0 := by omega
  refine L_reg [0, 1, 4, 11, 12] (fun K hK => ?_)
  simp [wrap_i64 (a := (a : Int) + 1) (by omega), hbi, wrap_i64 (a := (b0 : Int)) (by omega)]
  apply hK; clear hK K
  have hS0 : Shuf a b c (sw c a pv) := .swap (by omega) (by omega) (by omega)
  have hpiv : g (sw c a pv) a = g c pv := sw_i (by omega) (by omega)
  generalize hd0 : sw c a pv = d0 at e3 hS0 hpiv
  clear e1 e2 hx0 hy0
  generalize hLOW : (fun x => ¬ κ (g c pv) < κ x) = LOW
  have hlow : ∀ x, (LOW x → ¬ cmpS (κ (g c pv)) (κ x) < 0) ∧ (¬ LOW x → cmpS (κ (g c pv)) (κ x) < 0) := by
    intro x
    rw [← hLOW]
    constructor
    · intro h1 h2; exact h1 (cmpS_neg.1 h2)
    · intro h1; exact cmpS_neg.2 (Decidable.not_not.1 h1)
  refine L_block (L_loopV [11, 12] (fun n' vs H' => ∃ (i j : Nat) (d : List Int), n' = j + 1 - i ∧ a + 1 ≤ i ∧ i ≤ j + 1 ∧ j < b ∧ Shuf a b c d ∧ g d a = g c pv ∧ (∀ k, a < k → k < i → LOW (g d k)) ∧ (∀ k, j < k → k < b → ¬ LOW (g d k)) ∧ vs = [.int .i64 i, .int .i64 j] ∧ Rw r ver H' d ∧ KeepX r H H') _ [.int .i64 (a + 1 : Nat), .int .i64 b0] rfl ⟨a + 1, b0, d0, rfl, by omega, by omega, by omega, hS0, hpiv, fun k k1 k2 => by omega, fun k k1 k2 => by omega, rfl, e3, e4⟩ ?_)
  clear e3 e4 hS0 hpiv hd0 d0 hr H2 H3
  rintro _ _ H1 ⟨i, j, d, rfl, hi, hij0, hjb, hS, hpiv, hLo, hHi, rfl, hrow, hK⟩
  have hdl : d.length = n := by rw [hS.len]; exact hn
  have hdD := hD.perm hS.1
  have hCk := hC.keep hK
  have ha0 := hrow.ld (i := a) (by omega)
  rw [hpiv] at ha0
  have hdDa : D (g c pv) := by rw [← hpiv]; exact hdD a (by omega)
  refine L_block ?_
  refine L_blockR (fun e' H' => ∃ (x2 : Nat) (v : AV), i ≤ x2 ∧ x2 ≤ j + 1 ∧ (∀ k, a < k → k < x2 → LOW (g d k)) ∧ (x2 ≤ j → ¬ LOW (g d x2)) ∧ e' = [(0, .slice (some r) 0 n ver 1 false), (1, .int .i64 a), (4, .func (.func f) [] caps), (11, .int .i64 (x2 : Nat)), (12, .int .i64 (j : Nat)), (47, v)] ∧ H1 = H') (L_loopV [11] (fun n' vs H' => ∃ x2 : Nat, n' = j + 1 - x2 ∧ i ≤ x2 ∧ x2 ≤ j + 1 ∧ (∀ k, a < k → k < x2 → LOW (g d k)) ∧ vs = [.int .i64 x2] ∧ H1 = H') _ [.int .i64 i] rfl ⟨i, rfl, by omega, by omega, hLo, rfl, rfl⟩ ?_) ?_
  · rintro n' _ _ ⟨x2, rfl, h1, h2, hR, rfl, rfl⟩
    by_cases hij : x2 ≤ j
    · have hx := hrow.ld (i := x2) (by omega)
      have g1 : x2 < n := by omega
      refine L_regT mixed [0, 1, 4, 11, 12, 47] (by kernel_rfl) (fun K hK => ?_)
      simp [hij, g1, ga, hx, ha0, hCk.1]
      refine exC_mk (fun Q hQ => hCk.2 H1 (.refl _ _) _ _ hdDa (hdD x2 (by omega)) Q hQ) ?_
      simp [pickV]
      apply hK; clear hK K
      have hc := hlow (g d x2)
      by_cases hL : LOW (g d x2)
      · refine L_true (by first | simpa using hc.1 hL | simpa using hc.2 hL) ?_
        refine L_block ?_
        refine L_reg [0, 1, 4, 11, 12] (fun K hK => ?_)
        simp [wrap_i64 (a := (x2 : Int) + 1) (by omega)]
        apply hK; clear hK K
        refine ⟨j + 1 - (x2 + 1), [.int .i64 (x2 + 1 : Nat)], by omega, by simp, x2 + 1, rfl, by omega, by omega, fun k k1 k2 => ?_, rfl, rfl⟩
        by_cases k3 : k = x2
        · rw [k3]; exact hL
        · exact hR k k1 (by omega)
      · refine L_false (by first | simpa using hc.1 hL | simpa using hc.2 hL) (L_exit ?_)
        exact ⟨x2, _, h1, h2, hR, fun _ => hL, rfl, rfl⟩
    · refine L_regT mixed [0, 1, 4, 11, 12, 47] (by kernel_rfl) (fun K hK => ?_)
      simp [pickV, hij]
      apply hK; clear hK K
      refine L_false (by simp) (L_exit ?_)
      exact ⟨x2, _, h1, h2, hR, fun h => absurd h hij, rfl, rfl⟩
  rintro _ _ ⟨i1, vu, h1u, h2u, hRu, hsu, rfl, rfl⟩
  refine L_blockR (fun e' H' => ∃ (x2 : Nat) (v : AV), x2 ≤ j ∧ i1 ≤ x2 + 1 ∧ (∀ k, x2 < k → k < b → ¬ LOW (g d k)) ∧ (i1 ≤ x2 → LOW (g d x2)) ∧ e' = [(0, .slice (some r) 0 n ver 1 false), (1, .int .i64 a), (4, .func (.func f) [] caps), (11, .int .i64 (i1 : Nat)), (12, .int .i64 (x2 : Nat)), (47, vu), (65, v)] ∧ H1 = H') (L_loopV [12] (fun n' vs H' => ∃ x2 : Nat, n' = x2 + 1 - i1 ∧ x2 ≤ j ∧ i1 ≤ x2 + 1 ∧ (∀ k, x2 < k → k < b → ¬ LOW (g d k)) ∧ vs = [.int .i64 x2] ∧ H1 = H') _ [.int .i64 j] rfl ⟨j, rfl, by omega, by omega, hHi, rfl, rfl⟩ ?_) ?_
  · rintro n' _ _ ⟨x2, rfl, h1, h2, hR, rfl, rfl⟩
    by_cases hij : i1 ≤ x2
    · have hx := hrow.ld (i := x2) (by omega)
      have g1 : x2 < n := by omega
      refine L_regT mixed [0, 1, 4, 11, 12, 47, 65] (by kernel_rfl) (fun K hK => ?_)
      simp [hij, g1, ga, hx, ha0, hCk.1]
      refine exC_mk (fun Q hQ => hCk.2 H1 (.refl _ _) _ _ hdDa (hdD x2 (by omega)) Q hQ) ?_
      simp [pickV]
      apply hK; clear hK K
      have hc := hlow (g d x2)
      by_cases hL : LOW (g d x2)
      · refine L_false (by first | simpa using hc.1 hL | simpa using hc.2 hL) (L_exit ?_)
        exact ⟨x2, _, h1, h2, hR, fun _ => hL, rfl, rfl⟩
      · refine L_true (by first | simpa using hc.1 hL | simpa using hc.2 hL) ?_
        refine L_block ?_
        obtain ⟨x3, rfl⟩ : ∃ x3, x2 = x3 + 1 := ⟨x2 - 1, by omega⟩
        refine L_reg [0, 1, 4, 11, 12, 47] (fun K hK => ?_)
        simp [wrap_i64 (a := (x3 : Int)) (by omega)]
        apply hK; clear hK K
        refine ⟨x3 + 1 - i1, [.int .i64 (x3 : Nat)], by omega, by simp, x3, rfl, by omega, by omega, fun k k1 k2 => ?_, rfl, rfl⟩
        by_cases k3 : k = x3 + 1
        · rw [k3]; exact hL
        · exact hR k (by omega) k2
    · refine L_regT mixed [0, 1, 4, 11, 12, 47, 65] (by kernel_rfl) (fun K hK => ?_)
      simp [pickV, hij]
      apply hK; clear hK K
      refine L_false (by simp) (L_exit ?_)
      exact ⟨x2, _, h1, h2, hR, fun h => absurd h hij, rfl, rfl⟩
  rintro _ _ ⟨j1, vd, h1d, h2d, hRd, hsd, rfl, rfl⟩
  refine L_reg [0, 1, 4, 11, 12, 70] (fun K hK => ?_)
  simp
  apply hK; clear hK K
  refine L_dec (j1 < i1) (by simp) (fun hlt => L_exit ?_) (fun hge => ?_)
  · refine L_reg [10] (fun K hK => ?_)
    simp
    apply hK; clear hK K
    have hLd : ∀ x, LOW x ↔ κ x ≤ κ (g c pv) := fun x => by rw [← hLOW]; exact Int.not_lt
    have e : i1 = j1 + 1 := by omega
    have q1 : ∀ k, a ≤ k → k < i1 → κ (g d k) ≤ κ (g c pv) := by
      intro k k1 k2
      by_cases k3 : k = a
      · rw [k3, hpiv]; exact Int.le_refl _
      · exact (hLd _).1 (hRu k (by omega) k2)
    have q2 : ∀ k, i1 ≤ k → k < b → κ (g c pv) < κ (g d k) := fun k k1 k2 => Int.not_le.1 fun h5 => hRd k (by omega) k2 ((hLd _).2 h5)
    exact L_ret ⟨.inr rfl, _, rfl, h H1 d i1 (by omega) (by omega) hS q1 q2 hrow hK⟩
  · have hl1 := hsu (by omega)
    have hl2 := hsd (by omega)
    have hne : i1 ≠ j1 := by rintro rfl; exact hl1 hl2
    obtain ⟨j2, rfl⟩ : ∃ j2, j1 = j2 + 1 := ⟨j1 - 1, by omega⟩
    have hx := hrow.ld (i := i1) (by omega)
    have hy := hrow.ld (i := j2 + 1) (by omega)
    obtain ⟨H2, H3, e1, e2, e3, e4⟩ := hrow.swap (i := i1) (j := j2 + 1) (by omega) (by omega)
    have g1 : i1 < n := by omega
    have g2 : (j2 : Int) + 1 < n := by omega
    have g3 : (0 : Int) ≤ (j2 : Int) + 1 := by omega
    have g4 : ((j2 : Int) + 1).toNat = j2 + 1 := by omega
    refine L_regT mixed [0, 1, 4, 11, 12] (by kernel_rfl) (fun K hK => ?_)
    simp [g1, g2, g3, g4, hx, hy, e1, e2]
    apply hK; clear hK K
    refine L_reg [0, 1, 4, 11, 12] (fun K hK => ?_)
    simp [wrap_i64 (a := (i1 : Int) + 1) (by omega)]
    apply hK; clear hK K
    refine L_reg [0, 1, 4, 11, 12] (fun K hK => ?_)
    simp [wrap_i64 (a := (j2 : Int)) (by omega)]
    apply hK; clear hK K
    have w0 := sw_i (c := d) (i := i1) (j := j2 + 1) (by omega) (by omega)
    have w1 := sw_j (c := d) (i := i1) (j := j2 + 1) (by omega) (by omega)
    have w2 := fun (k : Nat) (k1 : k ≠ i1) (k2 : k ≠ j2 + 1) => sw_o (c := d) (i := i1) (j := j2 + 1) (by omega) (by omega) k1 k2
    refine ⟨j2 + 1 - (i1 + 1), [.int .i64 (i1 + 1 : Nat), .int .i64 j2], by omega, by simp, i1 + 1, j2, _, rfl, by omega, by omega, by omega, hS.trans (.swap (by omega) (by omega) (by omega)), by rw [w2 a (by omega) (by omega)]; exact hpiv, fun k k1 k2 => ?_, fun k k1 k2 => ?_, rfl, e3, hK.trans e4⟩
    · by_cases k3 : k = i1
      · rw [k3, w0]; exact hl2
      · rw [w2 k k3 (by omega)]; exact hRu k k1 (by omega)
    · by_cases k3 : k = j2 + 1
      · rw [k3, w1]; exact hl1
      · rw [w2 k (by omega) k3]; exact hRd k (by omega) k2
end Go.Proofs.Ytjfmiohgkcjdnaa

/- Sorting by a comparison: parts by a pivot, and where it comes to stand. -/
namespace Go.Proofs.Ytjfmiohgkcjdnaa
open Go Go.Proofs.Ytjfmiohgkcjdnaa.AX

theorem part_fin {_D κ : Int → Int} {a b j pv : Nat} {c d : List Int} {LOW : Int → Prop} (hLd : ∀ x, LOW x ↔ κ x < κ (g c pv)) (hb : b ≤ d.length) (haj : a ≤ j) (hjb : j < b) (hS : Shuf a b c d) (hpiv : g d a = g c pv) (hLo : ∀ k, a < k → k < j + 1 → LOW (g d k)) (hHi : ∀ k, j < k → k < b → ¬ LOW (g d k)) :
    Shuf a b c (sw d j a) ∧ (∀ k, a ≤ k → k < j → κ (g (sw d j a) k) ≤ κ (g (sw d j a) j)) ∧ (∀ k, j < k → k < b → κ (g (sw d j a) j) ≤ κ (g (sw d j a) k)) := by
  have w0 := sw_i (c := d) (i := j) (j := a) (by omega) (by omega)
  have w1 := sw_j (c := d) (i := j) (j := a) (by omega) (by omega)
  have w2 := fun (k : Nat) (k1 : k ≠ j) (k2 : k ≠ a) => sw_o (c := d) (i := j) (j := a) (by omega) (by omega) k1 k2
  refine ⟨hS.trans (.swap hb (by omega) (by omega)), fun k k1 k2 => ?_, fun k k1 k2 => ?_⟩
  · rw [w0, hpiv]
    by_cases k3 : k = a
    · rw [k3, w1]; exact Int.le_of_lt ((hLd _).1 (hLo j (by omega) (by omega)))
    · rw [w2 k (by omega) k3]; exact Int.le_of_lt ((hLd _).1 (hLo k (by omega) (by omega)))
  · rw [w0, hpiv, w2 k (by omega) (by omega)]
    exact Int.not_lt.1 fun h => hHi k k1 k2 ((hLd _).2 h)
set_option maxRecDepth 100000 in
theorem part_ac (f : FuncId) (caps : List AV) (D : Int → Prop) (κ : Int → Int) (r ver a b pv : Nat) (c : List Int) (H : AH) (Q : AV → AH → Prop) (hC : Cmp f caps D κ r H) (hr : Rw r ver H c) (hD : All D c) (hl : c.length ≤ 1000000) (hpa : a ≤ pv) (hpb : pv < b) (hb : b ≤ c.length)
    (h : ∀ (H' : AH) (m : List Int) (p : Nat) (bb : Bool), a ≤ p → p < b → Shuf a b c m → (∀ k, a ≤ k → k < p → κ (g m k) ≤ κ (g m p)) → (∀ k, p < k → k < b → κ (g m p) ≤ κ (g m k)) → Rw r ver H' m → KeepX r H H' → Q (.tuple [.int .i64 p, .bool bb]) H') : AC Try.prog 106 [.slice (some r) 0 c.length ver 1 false, .int .i64 a, .int .i64 b, .int .i64 pv, .func (.func f) [] caps] H Q := by
  refine L_body 178 Try.func106 rfl rfl ?_
  refine L_reg [0, 1, 2, 3, 4] (fun K hK => ?_)
  simp
  apply hK; clear hK K
  generalize hn : c.length = n at *
  obtain ⟨b0, rfl⟩ : ∃ b', b = b' + 1 := ⟨b - 1, by omega⟩
  generalize hb0 : b0 + 1 = b at *
  have hx0 := hr.ld (i := pv) (by omega)
  have hy0 := hr.ld (i := a) (by omega)
  obtain ⟨H2, H3, e1, e2, e3, e4⟩ := hr.swap (i := a) (j := pv) (by omega) (by omega)
  have ga : a < n := by omega
  have gp : pv < n := by omega
  refine L_regT mixed [0, 1, 2, 4] (by kernel_rfl) (fun K hK => ?_)
  simp [ga, gp, hx0, hy0, e1, e2]
  apply hK; clear hK K
  have hbi : (b : Int) - 1 = b0 := by omega
  obtain ⟨i, hi⟩ : ∃ i : Nat, (a : Int) + 1 = i := ⟨a + 1, by omega⟩
  refine L_reg [0, 1, 4, 12, 13] (fun K hK => ?_)
  simp [hi, wrap_i64 (a := (i : Int)) (by omega), hbi, wrap_i64 (a := (b0 : Int)) (by omega)]
  apply hK; clear hK K
  have hS0 : Shuf a b c (sw c a pv) := .swap (by omega) (by omega) (by omega)
  have hpiv : g (sw c a pv) a = g c pv := sw_i (by omega) (by omega)
  generalize hd0 : sw c a pv = d0 at e3 hS0 hpiv
  clear e1 e2 hx0 hy0
  generalize hLOW : (fun x => κ x < κ (g c pv)) = LOW
  have hlow : ∀ x, (LOW x → cmpS (κ x) (κ (g c pv)) < 0) ∧ (¬ LOW x → ¬ cmpS (κ x) (κ (g c pv)) < 0) := by
    intro x
    rw [← hLOW]
    constructor
    · intro h1; exact cmpS_neg.2 h1
    · intro h1 h2; exact h1 (cmpS_neg.1 h2)
  have hLd : ∀ x, LOW x ↔ κ x < κ (g c pv) := fun x => by rw [← hLOW]
  have hdD := hD.perm hS0.1
  have hCk := hC.keep e4
  have hdl : d0.length = n := by rw [hS0.len]; exact hn
  have ha0 := e3.ld (i := a) (by omega)
  have hLo : ∀ k, a < k → k < i → LOW (g d0 k) := fun k k1 k2 => by omega
  have hHi : ∀ k, b0 < k → k < b → ¬ LOW (g d0 k) := fun k k1 k2 => by omega
  rw [hpiv] at ha0
  have hdDa : D (g c pv) := by rw [← hpiv]; exact hdD a (by omega)
  have hrow := e3
  clear e3
  clear hd0
  generalize H3 = H1 at *
  generalize d0 = d at *
  generalize hj0 : b0 = j at *
  refine L_blockR (fun e' H' => ∃ (x2 : Nat) (v : AV), i ≤ x2 ∧ x2 ≤ j + 1 ∧ (∀ k, a < k → k < x2 → LOW (g d k)) ∧ (x2 ≤ j → ¬ LOW (g d x2)) ∧ e' = [(0, .slice (some r) 0 n ver 1 false), (1, .int .i64 a), (4, .func (.func f) [] caps), (12, .int .i64 (x2 : Nat)), (13, .int .i64 (j : Nat)), (47, v)] ∧ H1 = H') (L_loopV [12] (fun n' vs H' => ∃ x2 : Nat, n' = j + 1 - x2 ∧ i ≤ x2 ∧ x2 ≤ j + 1 ∧ (∀ k, a < k → k < x2 → LOW (g d k)) ∧ vs = [.int .i64 x2] ∧ H1 = H') _ [.int .i64 i] rfl ⟨i, rfl, by omega, by omega, hLo, rfl, rfl⟩ ?_) ?_
  · rintro n' _ _ ⟨x2, rfl, h1, h2, hR, rfl, rfl⟩
    by_cases hij : x2 ≤ j
    · have hx := hrow.ld (i := x2) (by omega)
      have g1 : x2 < n := by omega
      refine L_regT mixed [0, 1, 4, 12, 13, 47] (by kernel_rfl) (fun K hK => ?_)
      simp [hij, g1, ga, hx, ha0, hCk.1]
      refine exC_mk (fun Q hQ => hCk.2 H1 (.refl _ _) _ _ (hdD x2 (by omega)) hdDa Q hQ) ?_
      simp [pickV]
      apply hK; clear hK K
      have hc := hlow (g d x2)
      by_cases hL : LOW (g d x2)
      · refine L_true (by first | simpa using hc.1 hL | simpa using hc.2 hL) ?_
        refine L_block ?_
        refine L_reg [0, 1, 4, 12, 13] (fun K hK => ?_)
        simp [wrap_i64 (a := (x2 : Int) + 1) (by omega)]
        apply hK; clear hK K
        refine ⟨j + 1 - (x2 + 1), [.int .i64 (x2 + 1 : Nat)], by omega, by simp, x2 + 1, rfl, by omega, by omega, fun k k1 k2 => ?_, rfl, rfl⟩
        by_cases k3 : k = x2
        · rw [k3]; exact hL
        · exact hR k k1 (by omega)
      · refine L_false (by first | simpa using hc.1 hL | simpa using hc.2 hL) (L_exit ?_)
        exact ⟨x2, _, h1, h2, hR, fun _ => hL, rfl, rfl⟩
    · refine L_regT mixed [0, 1, 4, 12, 13, 47] (by kernel_rfl) (fun K hK => ?_)
      simp [pickV, hij]
      apply hK; clear hK K
      refine L_false (by simp) (L_exit ?_)
      exact ⟨x2, _, h1, h2, hR, fun h => absurd h hij, rfl, rfl⟩
  rintro _ _ ⟨i1, vu, h1u, h2u, hRu, hsu, rfl, rfl⟩
  refine L_blockR (fun e' H' => ∃ (x2 : Nat) (v : AV), x2 ≤ j ∧ i1 ≤ x2 + 1 ∧ (∀ k, x2 < k → k < b → ¬ LOW (g d k)) ∧ (i1 ≤ x2 → LOW (g d x2)) ∧ e' = [(0, .slice (some r) 0 n ver 1 false), (1, .int .i64 a), (4, .func (.func f) [] caps), (12, .int .i64 (i1 : Nat)), (13, .int .i64 (x2 : Nat)), (47, vu), (66, v)] ∧ H1 = H') (L_loopV [13] (fun n' vs H' => ∃ x2 : Nat, n' = x2 + 1 - i1 ∧ x2 ≤ j ∧ i1 ≤ x2 + 1 ∧ (∀ k, x2 < k → k < b → ¬ LOW (g d k)) ∧ vs = [.int .i64 x2] ∧ H1 = H') _ [.int .i64 j] rfl ⟨j, rfl, by omega, by omega, hHi, rfl, rfl⟩ ?_) ?_
  · rintro n' _ _ ⟨x2, rfl, h1, h2, hR, rfl, rfl⟩
    by_cases hij : i1 ≤ x2
    · have hx := hrow.ld (i := x2) (by omega)
      have g1 : x2 < n := by omega
      refine L_regT mixed [0, 1, 4, 12, 13, 47, 66] (by kernel_rfl) (fun K hK => ?_)
      simp [hij, g1, ga, hx, ha0, hCk.1]
      refine exC_mk (fun Q hQ => hCk.2 H1 (.refl _ _) _ _ (hdD x2 (by omega)) hdDa Q hQ) ?_
      simp [pickV]
      apply hK; clear hK K
      have hc := hlow (g d x2)
      by_cases hL : LOW (g d x2)
      · refine L_false (by first | simpa using hc.1 hL | simpa using hc.2 hL) (L_exit ?_)
        exact ⟨x2, _, h1, h2, hR, fun _ => hL, rfl, rfl⟩
      · refine L_true (by first | simpa using hc.1 hL | simpa using hc.2 hL) ?_
        refine L_block ?_
        obtain ⟨x3, rfl⟩ : ∃ x3, x2 = x3 + 1 := ⟨x2 - 1, by omega⟩
        refine L_reg [0, 1, 4, 12, 13, 47] (fun K hK => ?_)
        simp [wrap_i64 (a := (x3 : Int)) (by omega)]
        apply hK; clear hK K
        refine ⟨x3 + 1 - i1, [.int .i64 (x3 : Nat)], by omega, by simp, x3, rfl, by omega, by omega, fun k k1 k2 => ?_, rfl, rfl⟩
        by_cases k3 : k = x3 + 1
        · rw [k3]; exact hL
        · exact hR k (by omega) k2
    · refine L_regT mixed [0, 1, 4, 12, 13, 47, 66] (by kernel_rfl) (fun K hK => ?_)
      simp [pickV, hij]
      apply hK; clear hK K
      refine L_false (by simp) (L_exit ?_)
      exact ⟨x2, _, h1, h2, hR, fun h => absurd h hij, rfl, rfl⟩
  rintro _ _ ⟨j1, vd, h1d, h2d, hRd, hsd, rfl, rfl⟩
  refine L_reg [0, 1, 4, 12, 13, 71] (fun K hK => ?_)
  simp
  apply hK; clear hK K
  refine L_dec (j1 < i1) (by simp) (fun hlt => ?_) (fun hge => ?_)
  · have e : i1 = j1 + 1 := by omega
    obtain ⟨f1, f2, f3⟩ := part_fin (_D := κ) hLd (by omega) (show a ≤ j1 by omega) (by omega) hS0 hpiv (by rw [← e]; exact hRu) hRd
    have hx := hrow.ld (i := j1) (by omega)
    obtain ⟨H4, H5, e1, e2, e3, e5⟩ := hrow.swap (i := j1) (j := a) (by omega) (by omega)
    rw [hpiv] at e1
    have g1 : j1 < n := by omega
    refine L_regT mixed [13] (by kernel_rfl) (fun K hK => ?_)
    simp [g1, ga, hx, ha0, e1, e2]
    apply hK; clear hK K
    refine L_reg [10, 11] (fun K hK => ?_)
    simp
    apply hK; clear hK K
    exact L_ret ⟨.inr rfl, _, rfl, h H5 _ j1 true (by omega) (by omega) f1 f2 f3 e3 (e4.trans e5)⟩
  · have hl1 := hsu (by omega)
    have hl2 := hsd (by omega)
    have hne : i1 ≠ j1 := by rintro rfl; exact hl1 hl2
    obtain ⟨j2, rfl⟩ : ∃ j2, j1 = j2 + 1 := ⟨j1 - 1, by omega⟩
    have hx := hrow.ld (i := i1) (by omega)
    have hy := hrow.ld (i := j2 + 1) (by omega)
    obtain ⟨H4, H5, e1, e2, e3, e5⟩ := hrow.swap (i := i1) (j := j2 + 1) (by omega) (by omega)
    have g1 : i1 < n := by omega
    have g2 : (j2 : Int) + 1 < n := by omega
    have g3 : (0 : Int) ≤ (j2 : Int) + 1 := by omega
    have g4 : ((j2 : Int) + 1).toNat = j2 + 1 := by omega
    refine L_regT mixed [0, 1, 4, 12, 13] (by kernel_rfl) (fun K hK => ?_)
    simp [g1, g2, g3, g4, hx, hy, e1, e2]
    apply hK; clear hK K
    refine L_reg [0, 1, 4, 12, 13] (fun K hK => ?_)
    simp [wrap_i64 (a := (i1 : Int) + 1) (by omega)]
    apply hK; clear hK K
    refine L_reg [0, 1, 4, 12, 13] (fun K hK => ?_)
    simp [wrap_i64 (a := (j2 : Int)) (by omega)]
    apply hK; clear hK K
    have w0 := sw_i (c := d) (i := i1) (j := j2 + 1) (by omega) (by omega)
    have w1 := sw_j (c := d) (i := i1) (j := j2 + 1) (by omega) (by omega)
    have w2 := fun (k : Nat) (k1 : k ≠ i1) (k2 : k ≠ j2 + 1) => sw_o (c := d) (i := i1) (j := j2 + 1) (by omega) (by omega) k1 k2
    refine L_block (L_loopV [12, 13] (fun n' vs H' => ∃ (i j : Nat) (d : List Int), n' = j + 1 - i ∧ a + 1 ≤ i ∧ i ≤ j + 1 ∧ j < b ∧ Shuf a b c d ∧ g d a = g c pv ∧ (∀ k, a < k → k < i → LOW (g d k)) ∧ (∀ k, j < k → k < b → ¬ LOW (g d k)) ∧ vs = [.int .i64 i, .int .i64 j] ∧ Rw r ver H' d ∧ KeepX r H H') _ [.int .i64 (i1 + 1 : Nat), .int .i64 j2] rfl ⟨i1 + 1, j2, sw d i1 (j2 + 1), rfl, by omega, by omega, by omega, hS0.trans (.swap (by omega) (by omega) (by omega)), by rw [w2 a (by omega) (by omega)]; exact hpiv, fun k k1 k2 => ?_, fun k k1 k2 => ?_, rfl, e3, e4.trans e5⟩ ?_)
    · by_cases k3 : k = i1
      · rw [k3, w0]; exact hl2
      · rw [w2 k k3 (by omega)]; exact hRu k k1 (by omega)
    · by_cases k3 : k = j2 + 1
      · rw [k3, w1]; exact hl1
      · rw [w2 k (by omega) k3]; exact hRd k (by omega) k2
    clear w0 w1 w2 e1 e2 e3 e5 hx hy hl1 hl2 hsu hsd hRu hRd hne hrow e4 hS0 hpiv hdl hdD hCk ha0 hdDa hLo hHi g1 g2 g3 g4 hr
    clear H4 H5
    clear d
    clear H1
    rintro _ _ H1 ⟨i, j, d, rfl, hi, hij0, hjb, hS, hpiv, hLo, hHi, rfl, hrow, hK⟩
    have hdl : d.length = n := by rw [hS.len]; exact hn
    have hdD := hD.perm hS.1
    have hCk := hC.keep hK
    have ha0 := hrow.ld (i := a) (by omega)
    rw [hpiv] at ha0
    have hdDa : D (g c pv) := by rw [← hpiv]; exact hdD a (by omega)
    refine L_block ?_
    refine L_blockR (fun e' H' => ∃ (x2 : Nat) (v : AV), i ≤ x2 ∧ x2 ≤ j + 1 ∧ (∀ k, a < k → k < x2 → LOW (g d k)) ∧ (x2 ≤ j → ¬ LOW (g d x2)) ∧ e' = [(0, .slice (some r) 0 n ver 1 false), (1, .int .i64 a), (4, .func (.func f) [] caps), (12, .int .i64 (x2 : Nat)), (13, .int .i64 (j : Nat)), (120, v)] ∧ H1 = H') (L_loopV [12] (fun n' vs H' => ∃ x2 : Nat, n' = j + 1 - x2 ∧ i ≤ x2 ∧ x2 ≤ j + 1 ∧ (∀ k, a < k → k < x2 → LOW (g d k)) ∧ vs = [.int .i64 x2] ∧ H1 = H') _ [.int .i64 i] rfl ⟨i, rfl, by omega, by omega, hLo, rfl, rfl⟩ ?_) ?_
    · rintro n' _ _ ⟨x2, rfl, h1, h2, hR, rfl, rfl⟩
      by_cases hij : x2 ≤ j
      · have hx := hrow.ld (i := x2) (by omega)
        have g1 : x2 < n := by omega
        refine L_regT mixed [0, 1, 4, 12, 13, 120] (by kernel_rfl) (fun K hK => ?_)
        simp [hij, g1, ga, hx, ha0, hCk.1]
        refine exC_mk (fun Q hQ => hCk.2 H1 (.refl _ _) _ _ (hdD x2 (by omega)) hdDa Q hQ) ?_
        simp [pickV]
        apply hK; clear hK K
        have hc := hlow (g d x2)
        by_cases hL : LOW (g d x2)
        · refine L_true (by first | simpa using hc.1 hL | simpa using hc.2 hL) ?_
          refine L_block ?_
          refine L_reg [0, 1, 4, 12, 13] (fun K hK => ?_)
          simp [wrap_i64 (a := (x2 : Int) + 1) (by omega)]
          apply hK; clear hK K
          refine ⟨j + 1 - (x2 + 1), [.int .i64 (x2 + 1 : Nat)], by omega, by simp, x2 + 1, rfl, by omega, by omega, fun k k1 k2 => ?_, rfl, rfl⟩
          by_cases k3 : k = x2
          · rw [k3]; exact hL
          · exact hR k k1 (by omega)
        · refine L_false (by first | simpa using hc.1 hL | simpa using hc.2 hL) (L_exit ?_)
          exact ⟨x2, _, h1, h2, hR, fun _ => hL, rfl, rfl⟩
      · refine L_regT mixed [0, 1, 4, 12, 13, 120] (by kernel_rfl) (fun K hK => ?_)
        simp [pickV, hij]
        apply hK; clear hK K
        refine L_false (by simp) (L_exit ?_)
        exact ⟨x2, _, h1, h2, hR, fun h => absurd h hij, rfl, rfl⟩
    rintro _ _ ⟨i3, vu, h1u, h2u, hRu, hsu, rfl, rfl⟩
    refine L_blockR (fun e' H' => ∃ (x2 : Nat) (v : AV), x2 ≤ j ∧ i3 ≤ x2 + 1 ∧ (∀ k, x2 < k → k < b → ¬ LOW (g d k)) ∧ (i3 ≤ x2 → LOW (g d x2)) ∧ e' = [(0, .slice (some r) 0 n ver 1 false), (1, .int .i64 a), (4, .func (.func f) [] caps), (12, .int .i64 (i3 : Nat)), (13, .int .i64 (x2 : Nat)), (120, vu), (139, v)] ∧ H1 = H') (L_loopV [13] (fun n' vs H' => ∃ x2 : Nat, n' = x2 + 1 - i3 ∧ x2 ≤ j ∧ i3 ≤ x2 + 1 ∧ (∀ k, x2 < k → k < b → ¬ LOW (g d k)) ∧ vs = [.int .i64 x2] ∧ H1 = H') _ [.int .i64 j] rfl ⟨j, rfl, by omega, by omega, hHi, rfl, rfl⟩ ?_) ?_
    · rintro n' _ _ ⟨x2, rfl, h1, h2, hR, rfl, rfl⟩
      by_cases hij : i3 ≤ x2
      · have hx := hrow.ld (i := x2) (by omega)
        have g1 : x2 < n := by omega
        refine L_regT mixed [0, 1, 4, 12, 13, 120, 139] (by kernel_rfl) (fun K hK => ?_)
        simp [hij, g1, ga, hx, ha0, hCk.1]
        refine exC_mk (fun Q hQ => hCk.2 H1 (.refl _ _) _ _ (hdD x2 (by omega)) hdDa Q hQ) ?_
        simp [pickV]
        apply hK; clear hK K
        have hc := hlow (g d x2)
        by_cases hL : LOW (g d x2)
        · refine L_false (by first | simpa using hc.1 hL | simpa using hc.2 hL) (L_exit ?_)
          exact ⟨x2, _, h1, h2, hR, fun _ => hL, rfl, rfl⟩
        · refine L_true (by first | simpa using hc.1 hL | simpa using hc.2 hL) ?_
          refine L_block ?_
          obtain ⟨x3, rfl⟩ : ∃ x3, x2 = x3 + 1 := ⟨x2 - 1, by omega⟩
          refine L_reg [0, 1, 4, 12, 13, 120] (fun K hK => ?_)
          simp [wrap_i64 (a := (x3 : Int)) (by omega)]
          apply hK; clear hK K
          refine ⟨x3 + 1 - i3, [.int .i64 (x3 : Nat)], by omega, by simp, x3, rfl, by omega, by omega, fun k k1 k2 => ?_, rfl, rfl⟩
          by_cases k3 : k = x3 + 1
          · rw [k3]; exact hL
          · exact hR k (by omega) k2
      · refine L_regT mixed [0, 1, 4, 12, 13, 120, 139] (by kernel_rfl) (fun K hK => ?_)
        simp [pickV, hij]
        apply hK; clear hK K
        refine L_false (by simp) (L_exit ?_)
        exact ⟨x2, _, h1, h2, hR, fun h => absurd h hij, rfl, rfl⟩
    rintro _ _ ⟨j3, vd, h1d, h2d, hRd, hsd, rfl, rfl⟩
    refine L_reg [0, 1, 4, 12, 13, 144] (fun K hK => ?_)
    simp
    apply hK; clear hK K
    refine L_dec (j3 < i3) (by simp) (fun hlt => L_exit ?_) (fun hge => ?_)
    · have e : i3 = j3 + 1 := by omega
      obtain ⟨f1, f2, f3⟩ := part_fin (_D := κ) hLd (by omega) (show a ≤ j3 by omega) (by omega) hS hpiv (by rw [← e]; exact hRu) hRd
      have hx := hrow.ld (i := j3) (by omega)
      obtain ⟨H4, H5, e1, e2, e3, e5⟩ := hrow.swap (i := j3) (j := a) (by omega) (by omega)
      rw [hpiv] at e1
      have g1 : j3 < n := by omega
      refine L_regT mixed [13] (by kernel_rfl) (fun K hK => ?_)
      simp [g1, ga, hx, ha0, e1, e2]
      apply hK; clear hK K
      refine L_reg [10, 11] (fun K hK => ?_)
      simp
      apply hK; clear hK K
      exact L_ret ⟨.inr rfl, _, rfl, h H5 _ j3 false (by omega) (by omega) f1 f2 f3 e3 (hK.trans e5)⟩
    · have hl1 := hsu (by omega)
      have hl2 := hsd (by omega)
      have hne : i3 ≠ j3 := by rintro rfl; exact hl1 hl2
      obtain ⟨j2, rfl⟩ : ∃ j2, j3 = j2 + 1 := ⟨j3 - 1, by omega⟩
      have hx := hrow.ld (i := i3) (by omega)
      have hy := hrow.ld (i := j2 + 1) (by omega)
      obtain ⟨H2, H3, e1, e2, e3, e4⟩ := hrow.swap (i := i3) (j := j2 + 1) (by omega) (by omega)
      have g1 : i3 < n := by omega
      have g2 : (j2 : Int) + 1 < n := by omega
      have g3 : (0 : Int) ≤ (j2 : Int) + 1 := by omega
      have g4 : ((j2 : Int) + 1).toNat = j2 + 1 := by omega
      refine L_regT mixed [0, 1, 4, 12, 13] (by kernel_rfl) (fun K hK => ?_)
      simp [g1, g2, g3, g4, hx, hy, e1, e2]
      apply hK; clear hK K
      refine L_reg [0, 1, 4, 12, 13] (fun K hK => ?_)
      simp [wrap_i64 (a := (i3 : Int) + 1) (by omega)]
      apply hK; clear hK K
      refine L_reg [0, 1, 4, 12, 13] (fun K hK => ?_)
      simp [wrap_i64 (a := (j2 : Int)) (by omega)]
      apply hK; clear hK K
      have w0 := sw_i (c := d) (i := i3) (j := j2 + 1) (by omega) (by omega)
      have w1 := sw_j (c := d) (i := i3) (j := j2 + 1) (by omega) (by omega)
      have w2 := fun (k : Nat) (k1 : k ≠ i3) (k2 : k ≠ j2 + 1) => sw_o (c := d) (i := i3) (j := j2 + 1) (by omega) (by omega) k1 k2
      refine ⟨j2 + 1 - (i3 + 1), [.int .i64 (i3 + 1 : Nat), .int .i64 j2], by omega, by simp, i3 + 1, j2, _, rfl, by omega, by omega, by omega, hS.trans (.swap (by omega) (by omega) (by omega)), by rw [w2 a (by omega) (by omega)]; exact hpiv, fun k k1 k2 => ?_, fun k k1 k2 => ?_, rfl, e3, hK.trans e4⟩
      · by_cases k3 : k = i3
        · rw [k3, w0]; exact hl2
        · rw [w2 k k3 (by omega)]; exact hRu k k1 (by omega)
      · by_cases k3 : k = j2 + 1
        · rw [k3, w1]; exact hl1
        · rw [w2 k (by omega) k3]; exact hRd k (by omega) k2
end Go.Proofs.Ytjfmiohgkcjdnaa

/- Sorting by a comparison: heaps. -/
namespace Go.Proofs.Ytjfmiohgkcjdnaa
open Go Go.Proofs.Ytjfmiohgkcjdnaa.AX

/-- What lies below place i is not greater. -/
def Hp (κ : Int → Int) (f hi : Nat) (d : List Int) (i : Nat) : Prop := ∀ c, c = 2 * i + 1 ∨ c = 2 * i + 2 → c < hi → κ (g d (f + c)) ≤ κ (g d (f + i))
theorem heap_max {κ : Int → Int} {f hi : Nat} {d : List Int} (h : ∀ i, Hp κ f hi d i) : ∀ p, p < hi → κ (g d (f + p)) ≤ κ (g d (f + 0)) := by
  intro p
  induction p using Nat.strongRecOn with
  | _ p ih =>
    intro hp
    by_cases h0 : p = 0
    · subst h0; exact Int.le_refl _
    · have h1 := h ((p - 1) / 2) p (by omega) hp
      have h2 := ih ((p - 1) / 2) (by omega) (by omega)
      omega
set_option maxRecDepth 100000 in
theorem siftDown_ac (f : FuncId) (caps : List AV) (D : Int → Prop) (κ : Int → Int) (r ver lo hi fi : Nat) (c : List Int) (H : AH) (Q : AV → AH → Prop) (hC : Cmp f caps D κ r H) (hr : Rw r ver H c) (hD : All D c) (hl : c.length ≤ 1000000) (hb : fi + hi ≤ c.length) (hlo : lo ≤ hi) (hH : ∀ i, lo < i → Hp κ fi hi c i)
    (h : ∀ (H' : AH) (m : List Int), Shuf (fi + lo) (fi + hi) c m → (∀ i, lo ≤ i → Hp κ fi hi m i) → Rw r ver H' m → KeepX r H H' → Q (.tuple []) H') : AC Try.prog 118 [.slice (some r) 0 c.length ver 1 false, .int .i64 lo, .int .i64 hi, .int .i64 fi, .func (.func f) [] caps] H Q := by
  refine L_body 82 Try.func118 rfl rfl ?_
  refine L_reg [0, 2, 3, 4, 10] (fun K hK => ?_)
  simp
  apply hK; clear hK K
  generalize hn : c.length = n at *
  refine L_block (L_loopV [10] (fun k vs H' => ∃ (ro : Nat) (d : List Int), k = hi - ro ∧ lo ≤ ro ∧ ro ≤ hi ∧ Shuf (fi + lo) (fi + hi) c d ∧ (∀ i, lo ≤ i → i ≠ ro → Hp κ fi hi d i) ∧ (∀ i, lo ≤ i → ro = 2 * i + 1 ∨ ro = 2 * i + 2 → ∀ q, q = 2 * ro + 1 ∨ q = 2 * ro + 2 → q < hi → κ (g d (fi + q)) ≤ κ (g d (fi + i))) ∧ vs = [.int .i64 ro] ∧ Rw r ver H' d ∧ KeepX r H H') _ [.int .i64 lo] rfl ⟨lo, c, rfl, by omega, by omega, .refl _ _ _, fun i h1 h2 => hH i (by omega), fun i h1 h2 => by omega, rfl, hr, .refl r H⟩ ?_)
  rintro _ _ H1 ⟨ro, d, rfl, hro, hroh, hS, h1, h2, rfl, hrow, hK⟩
  have hdl : d.length = n := by rw [hS.len]; exact hn
  have hdD := hD.perm hS.1
  have hCk := hC.keep hK
  refine L_block ?_
  obtain ⟨ch, hch⟩ : ∃ ch : Nat, 2 * (ro : Int) + 1 = ch := ⟨2 * ro + 1, by omega⟩
  refine L_reg [0, 2, 3, 4, 10, 11] (fun K hK => ?_)
  simp [wrap_i64 (a := 2 * (ro : Int)) (by omega), hch, wrap_i64 (a := (ch : Int)) (by omega)]
  apply hK; clear hK K
  refine L_reg [0, 2, 3, 4, 10, 11, 18] (fun K hK => ?_)
  simp
  apply hK; clear hK K
  refine L_dec (hi ≤ ch) (by simp) (fun hge => L_exit ?_) (fun hlt => ?_)
  · refine ⟨.inl rfl, _, rfl, h H1 d hS (fun i hi1 => ?_) hrow hK⟩
    by_cases e : i = ro
    · subst e; intro c hc hch; omega
    · exact h1 i hi1 e
  obtain ⟨ix, hix⟩ : ∃ ix : Nat, (fi : Int) + ch = ix := ⟨fi + ch, by omega⟩
  have hixn : ix = fi + ch := by omega
  refine L_regT mixed [0, 2, 3, 4, 10, 11, 40] (by kernel_rfl) (fun K hK0 => ?_)
  have hK2 : ∀ t : Bool, (t = true → ch + 1 < hi ∧ κ (g d (fi + ch)) < κ (g d (fi + (ch + 1)))) → (t = false → ch + 1 < hi → κ (g d (fi + (ch + 1))) ≤ κ (g d (fi + ch))) → K [(0, .slice (some r) 0 n ver 1 false), (2, .int .i64 hi), (3, .int .i64 fi), (4, .func (.func f) [] caps), (10, .int .i64 ro), (11, .int .i64 ch), (40, .bool t)] H1 := by
    intro t ht1 ht2
    refine hK0 _ _ ?_
    clear hK0 K
    refine L_condK [0, 2, 3, 4, 10, 11] (fun e' H' => ∃ c2 : Nat, (c2 = ch ∨ c2 = ch + 1) ∧ c2 < hi ∧ (∀ q, q = ch ∨ q = ch + 1 → q < hi → κ (g d (fi + q)) ≤ κ (g d (fi + c2))) ∧ e' = [(0, .slice (some r) 0 n ver 1 false), (2, .int .i64 hi), (3, .int .i64 fi), (4, .func (.func f) [] caps), (10, .int .i64 ro), (11, .int .i64 (c2 : Nat))] ∧ H1 = H') (t := t) rfl (fun ht => ?_) (fun ht => ?_) ?_
    · obtain ⟨g1, g2⟩ := ht1 ht
      refine L_reg [0, 2, 3, 4, 10, 11] (fun K hK => ?_)
      simp [wrap_i64 (a := (ch : Int) + 1) (by omega)]
      apply hK; clear hK K
      refine ⟨ch + 1, .inr rfl, g1, fun q hq1 hq2 => ?_, by simp, rfl⟩
      rcases hq1 with rfl | rfl <;> omega
    · refine ⟨ch, .inl rfl, by omega, fun q hq1 hq2 => ?_, by simp, rfl⟩
      rcases hq1 with rfl | rfl
      · omega
      · exact ht2 ht hq2
    · rintro _ _ ⟨c2, hc2, hc2h, hbig, rfl, rfl⟩
      clear ht1 ht2
      have hc2ro : c2 = 2 * ro + 1 ∨ c2 = 2 * ro + 2 := by omega
      obtain ⟨ia, hia⟩ : ∃ ix : Nat, (fi : Int) + ro = ix := ⟨fi + ro, by omega⟩
      obtain ⟨ib, hib⟩ : ∃ ix : Nat, (fi : Int) + c2 = ix := ⟨fi + c2, by omega⟩
      have hian : ia = fi + ro := by omega
      have hibn : ib = fi + c2 := by omega
      have hx := hrow.ld (i := ia) (by omega)
      have hy := hrow.ld (i := ib) (by omega)
      have ga : ia < n := by omega
      have gb : ib < n := by omega
      refine L_regT mixed [0, 2, 3, 4, 10, 11, 58] (by kernel_rfl) (fun K hK => ?_)
      simp [hia, hib, ga, gb, hx, hy, hCk.1, wrap_i64 (a := (ia : Int)) (by omega), wrap_i64 (a := (ib : Int)) (by omega)]
      refine exC_mk (fun Q hQ => hCk.2 H1 (.refl _ _) _ _ (hdD ia (by omega)) (hdD ib (by omega)) Q hQ) ?_
      simp
      apply hK; clear hK K
      by_cases hless : κ (g d ia) < κ (g d ib)
      · refine L_false (by simpa using cmpS_neg.2 hless) ?_
        obtain ⟨H2, H3, e1, e2, e3, e4⟩ := hrow.swap (i := ia) (j := ib) (by omega) (by omega)
        refine L_regT mixed [0, 2, 3, 4, 11] (by kernel_rfl) (fun K hK => ?_)
        simp [hia, hib, ga, gb, hx, hy, e1, e2, wrap_i64 (a := (ia : Int)) (by omega), wrap_i64 (a := (ib : Int)) (by omega)]
        apply hK; clear hK K
        refine L_reg [0, 2, 3, 4, 10] (fun K hK => ?_)
        simp
        apply hK; clear hK K
        have w0 := sw_i (c := d) (i := ia) (j := ib) (by omega) (by omega)
        have w1 := sw_j (c := d) (i := ia) (j := ib) (by omega) (by omega)
        have w2 := fun (k : Nat) (k1 : k ≠ ia) (k2 : k ≠ ib) => sw_o (c := d) (i := ia) (j := ib) (by omega) (by omega) k1 k2
        subst hian
        subst hibn
        have v0 : g (sw d (fi + ro) (fi + c2)) (fi + ro) = g d (fi + c2) := w0
        have v1 : g (sw d (fi + ro) (fi + c2)) (fi + c2) = g d (fi + ro) := w1
        have v2 : ∀ k, k ≠ ro → k ≠ c2 → g (sw d (fi + ro) (fi + c2)) (fi + k) = g d (fi + k) := fun k k1 k2 => w2 _ (by omega) (by omega)
        refine ⟨hi - c2, [.int .i64 (c2 : Nat)], by omega, by simp, c2, _, rfl, by omega, by omega, hS.trans (.swap (by omega) (by omega) (by omega)), fun i i1 i2 q q1 q2 => ?_, fun i i1 i2 q q1 q2 => ?_, rfl, e3, hK.trans e4⟩
        · by_cases e : i = ro
          · subst e
            rw [v0]
            by_cases q3 : q = c2
            · rw [q3, v1]; omega
            · rw [v2 q (by omega) q3]; exact hbig q (by omega) q2
          · have h3 := h1 i i1 e q q1 q2
            rw [v2 i e i2]
            by_cases q3 : q = ro
            · rw [q3, v0]; exact h2 i i1 (by omega) c2 hc2ro hc2h
            · rw [v2 q q3 (by omega)]; exact h3
        · have : i = ro := by omega
          subst this
          rw [v0, v2 q (by omega) (by omega)]
          exact h1 c2 (by omega) (by omega) q q1 q2
      · have hneg : ¬ cmpS (κ (g d ia)) (κ (g d ib)) < 0 := fun h => hless (cmpS_neg.1 h)
        refine L_true (by simpa using hneg) ?_
        refine L_ret ⟨.inr rfl, _, rfl, h H1 d hS (fun i hi1 => ?_) hrow hK⟩
        by_cases e : i = ro
        · subst e
          intro q q1 q2
          have := hbig q (by omega) q2
          rw [hian, hibn] at hless
          omega
        · exact h1 i hi1 e
  by_cases hc1 : ch + 1 < hi
  · have hx := hrow.ld (i := ix) (by omega)
    have hy := hrow.ld (i := ix + 1) (by omega)
    have g1 : ix < n := by omega
    have g2 : (ix : Int) + 1 < n := by omega
    have g3 : (0 : Int) ≤ (ix : Int) + 1 := by omega
    have g4 : ((ix : Int) + 1).toNat = ix + 1 := by omega
    have g5 : (ch : Int) + 1 < hi := by omega
    simp [hix, g1, g2, g3, g4, g5, hx, hy, hCk.1, wrap_i64 (a := (ch : Int) + 1) (by omega), wrap_i64 (a := (ix : Int)) (by omega), wrap_i64 (a := (ix : Int) + 1) (by omega)]
    refine exC_mk (fun Q hQ => hCk.2 H1 (.refl _ _) _ _ (hdD ix (by omega)) (hdD (ix + 1) (by omega)) Q hQ) ?_
    simp [pickV]
    refine hK2 _ (fun ht => ⟨hc1, ?_⟩) (fun ht _ => ?_)
    · have := cmpS_neg.1 (of_decide_eq_true ht)
      rw [hixn] at this; exact this
    · have : ¬ κ (g d ix) < κ (g d (ix + 1)) := fun h => (of_decide_eq_false ht) (cmpS_neg.2 h)
      rw [hixn] at this
      exact Int.not_lt.1 this
  · have g5 : ¬ (ch : Int) + 1 < hi := by omega
    simp [pickV, g5, wrap_i64 (a := (ch : Int) + 1) (by omega)]
    exact hK2 false (fun h => by cases h) (fun _ h => absurd h hc1)
end Go.Proofs.Ytjfmiohgkcjdnaa

/- Sorting by a comparison: by a heap. -/
namespace Go.Proofs.Ytjfmiohgkcjdnaa
open Go Go.Proofs.Ytjfmiohgkcjdnaa.AX

set_option maxRecDepth 100000 in
theorem heapSort_ac (f : FuncId) (caps : List AV) (D : Int → Prop) (κ : Int → Int) (r ver a l : Nat) (c : List Int) (H : AH) (Q : AV → AH → Prop) (hC : Cmp f caps D κ r H) (hr : Rw r ver H c) (hD : All D c) (hl : c.length ≤ 1000000) (hb : a + l ≤ c.length) (hl1 : 1 ≤ l)
    (h : ∀ (H' : AH) (m : List Int), Shuf a (a + l) c m → Srt κ a (a + l) m → Rw r ver H' m → KeepX r H H' → Q (.tuple []) H') : AC Try.prog 100 [.slice (some r) 0 c.length ver 1 false, .int .i64 a, .int .i64 (a + l : Nat), .func (.func f) [] caps] H Q := by
  refine L_body 60 Try.func100 rfl rfl ?_
  refine L_reg [0, 1, 2, 3, 8] (fun K hK => ?_)
  simp
  apply hK; clear hK K
  refine L_reg [0, 1, 2, 3, 8, 9] (fun K hK => ?_)
  simp
  apply hK; clear hK K
  refine L_reg [0, 3, 8, 9, 10] (fun K hK => ?_)
  simp [show ((a : Int) + l - a) = l by omega, wrap_i64 (a := (l : Int)) (by omega)]
  apply hK; clear hK K
  obtain ⟨l0, rfl⟩ : ∃ l0, l = l0 + 1 := ⟨l - 1, by omega⟩
  generalize hL : l0 + 1 = L at *
  have hdiv : ((l0 : Int)).tdiv 2 = ((l0 / 2 : Nat) : Int) := by rw [Int.tdiv_eq_ediv_of_nonneg (by omega)]; rfl
  obtain ⟨q, hq⟩ : ∃ q, q = l0 / 2 := ⟨_, rfl⟩
  rw [← hq] at hdiv
  have hL1 : (L : Int) - 1 = l0 := by omega
  refine L_reg [0, 3, 8, 9, 10, 11] (fun K hK => ?_)
  simp [hL1, hdiv, wrap_i64 (a := (l0 : Int)) (by omega), wrap_i64 (a := (q : Int)) (by omega)]
  apply hK; clear hK K
  generalize hn : c.length = n at *
  refine L_blockR (fun e' H' => ∃ (d : List Int) (v11 v21 : AV), Shuf a (a + L) c d ∧ (∀ i, Hp κ a L d i) ∧ Rw r ver H' d ∧ KeepX r H H' ∧ e' = [(0, .slice (some r) 0 n ver 1 false), (3, .func (.func f) [] caps), (8, .int .i64 a), (9, .int .i64 0), (10, .int .i64 L), (11, v11), (21, v21)]) (L_loopV [11] (fun k vs H' => ∃ d : List Int, k ≤ q + 1 ∧ Shuf a (a + L) c d ∧ (∀ i, k ≤ i → Hp κ a L d i) ∧ vs = [.int .i64 ((k : Int) - 1)] ∧ Rw r ver H' d ∧ KeepX r H H') (q + 1) [.int .i64 q] rfl ⟨c, by omega, .refl _ _ _, fun i hi q1 q2 q3 => by omega, by simp, hr, .refl r H⟩ ?_) ?_
  · rintro k _ H1 ⟨d, hk, hS, hH, rfl, hrow, hK⟩
    have hdl : d.length = n := by rw [hS.len]; exact hn
    cases k with
    | zero =>
      refine L_reg [0, 3, 8, 9, 10, 11, 21] (fun K hK => ?_)
      simp
      apply hK; clear hK K
      refine L_false (by simp) (L_exit ?_)
      exact ⟨d, _, _, hS, fun i => hH i (by omega), hrow, hK, rfl⟩
    | succ k =>
      have hk1 : (k : Int) + 1 - 1 = k := by omega
      refine L_reg [0, 3, 8, 9, 10, 11, 21] (fun K hK => ?_)
      simp
      apply hK; clear hK K
      refine L_true (by simp) ?_
      refine L_block ?_
      refine L_reg [0, 3, 8, 9, 10, 11] (fun K hK0 => ?_)
      simp [okFn_low]
      have := siftDown_ac f caps D κ r ver k L a d H1 (fun v H' => K [(0, .slice (some r) 0 n ver 1 false), (3, .func (.func f) [] caps), (8, .int .i64 a), (9, .int .i64 0), (10, .int .i64 L), (11, .int .i64 k)] H') (hC.keep hK) hrow (hD.perm hS.1) (by omega) (by omega) (by omega) (fun i hi => hH i (by omega)) (fun H2 m hS2 hH2 hr2 hK2 => ?_)
      · rw [hdl] at this; exact this
      apply hK0; clear hK0 K
      refine L_reg [0, 3, 8, 9, 10, 11] (fun K hK => ?_)
      simp [wrap_i64 (a := (k : Int) - 1) (by omega)]
      apply hK; clear hK K
      exact ⟨k, [.int .i64 ((k : Int) - 1)], by omega, by simp, m, by omega, hS.trans (hS2.wide (by omega) (by omega)), fun i hi => hH2 i hi, rfl, hr2, hK.trans hK2⟩
  rintro _ H1 ⟨d, v11, v21, hS, hH, hrow, hK, rfl⟩
  refine L_reg [0, 3, 8, 9, 12] (fun K hK => ?_)
  simp [hL1, wrap_i64 (a := (l0 : Int)) (by omega)]
  apply hK; clear hK K
  refine L_block (L_loopV [12] (fun k vs H' => ∃ d : List Int, k ≤ L ∧ Shuf a (a + L) c d ∧ (∀ i, Hp κ a k d i) ∧ (∀ p q, p < q → k ≤ q → q < L → κ (g d (a + p)) ≤ κ (g d (a + q))) ∧ vs = [.int .i64 ((k : Int) - 1)] ∧ Rw r ver H' d ∧ KeepX r H H') L [.int .i64 l0] rfl ⟨d, Nat.le_refl _, hS, hH, fun p q h1 h2 h3 => by omega, by rw [hL1], hrow, hK⟩ ?_)
  clear hS hH hrow hK d H1
  rintro k _ H1 ⟨d, hk, hS, hH, hT, rfl, hrow, hK⟩
  have hdl : d.length = n := by rw [hS.len]; exact hn
  cases k with
  | zero =>
    refine L_reg [0, 3, 8, 9, 12, 33] (fun K hK => ?_)
    simp
    apply hK; clear hK K
    refine L_false (by simp) (L_exit ?_)
    refine ⟨.inl rfl, _, rfl, h H1 d hS (fun p q h1 h2 h3 => ?_) hrow hK⟩
    have := hT (p - a) (q - a) (by omega) (by omega) (by omega)
    rw [show a + (p - a) = p by omega, show a + (q - a) = q by omega] at this
    exact this
  | succ k =>
    have hk1 : (k : Int) + 1 - 1 = k := by omega
    refine L_reg [0, 3, 8, 9, 12, 33] (fun K hK => ?_)
    simp
    apply hK; clear hK K
    refine L_true (by simp) ?_
    refine L_block ?_
    obtain ⟨ib, hib⟩ : ∃ ix : Nat, (a : Int) + k = ix := ⟨a + k, by omega⟩
    have hibn : ib = a + k := by omega
    have hx := hrow.ld (i := a) (by omega)
    have hy := hrow.ld (i := ib) (by omega)
    have ga : a < n := by omega
    have gb : ib < n := by omega
    obtain ⟨H2, H3, e1, e2, e3, e4⟩ := hrow.swap (i := a) (j := ib) (by omega) (by omega)
    refine L_regT mixed [0, 3, 8, 9, 12] (by kernel_rfl) (fun K hK => ?_)
    simp [hib, ga, gb, hx, hy, e1, e2, wrap_i64 (a := (ib : Int)) (by omega)]
    apply hK; clear hK K
    subst hibn
    have w0 := sw_i (c := d) (i := a) (j := a + k) (by omega) (by omega)
    have w1 := sw_j (c := d) (i := a) (j := a + k) (by omega) (by omega)
    have w2 := fun (k' : Nat) (k1 : k' ≠ a) (k2 : k' ≠ a + k) => sw_o (c := d) (i := a) (j := a + k) (by omega) (by omega) k1 k2
    have hmax := heap_max hH
    have hS3 : Shuf a (a + L) c (sw d a (a + k)) := hS.trans (.swap (by omega) (by omega) (by omega))
    have hl3 : (sw d a (a + k)).length = n := by rw [hS3.len]; exact hn
    have hK3 := hK.trans e4
    have hH3 : ∀ i, 0 < i → Hp κ a k (sw d a (a + k)) i := by
      intro i hi q' q1 q2
      rw [w2 _ (by omega) (by omega), w2 _ (by omega) (by omega)]
      exact hH i q' q1 (by omega)
    have hT3 : ∀ p q, p < q → k ≤ q → q < L → κ (g (sw d a (a + k)) (a + p)) ≤ κ (g (sw d a (a + k)) (a + q)) := by
      intro p q' h1 h2 h3
      by_cases e : q' = k
      · subst e
        rw [w1]
        by_cases e0 : p = 0
        · subst e0
          have := hmax q' (by omega)
          rw [Nat.add_zero] at *
          rw [w0]
          exact this
        · rw [w2 _ (by omega) (by omega)]
          exact hmax p (by omega)
      · rw [w2 (a + q') (by omega) (by omega)]
        by_cases e0 : p = 0
        · subst e0
          rw [Nat.add_zero, w0]
          exact hT k q' (by omega) (by omega) h3
        · by_cases e1 : p = k
          · subst e1
            rw [w1]
            exact hT 0 q' (by omega) (by omega) h3
          · rw [w2 (a + p) (by omega) (by omega)]
            exact hT p q' h1 (by omega) h3
    refine L_reg [0, 3, 8, 9, 12] (fun K hK0 => ?_)
    simp [okFn_low]
    have := siftDown_ac f caps D κ r ver 0 k a (sw d a (a + k)) H3 (fun v H' => K [(0, .slice (some r) 0 n ver 1 false), (3, .func (.func f) [] caps), (8, .int .i64 a), (9, .int .i64 0), (12, .int .i64 k)] H') (hC.keep hK3) e3 (hD.perm hS3.1) (by omega) (by omega) (by omega) hH3 (fun H4 m hS4 hH4 hr4 hK4 => ?_)
    · rw [hl3] at this; exact this
    apply hK0; clear hK0 K
    refine L_reg [0, 3, 8, 9, 12] (fun K hK => ?_)
    simp [wrap_i64 (a := (k : Int) - 1) (by omega)]
    apply hK; clear hK K
    refine ⟨k, [.int .i64 ((k : Int) - 1)], by omega, by simp, m, by omega, hS3.trans (hS4.wide (by omega) (by omega)), fun i => hH4 i (by omega), fun p q' h1 h2 h3 => ?_, rfl, hr4, hK3.trans hK4⟩
    rw [hS4.2 (a + q') (by omega)]
    by_cases hp : p < k
    · have := hS4.all (by omega) (p := fun x => κ x ≤ κ (g (sw d a (a + k)) (a + q'))) (fun k' h4 h5 => by
        have := hT3 (k' - a) q' (by omega) h2 h3
        rw [show a + (k' - a) = k' by omega] at this
        exact this) (a + p) (by omega) (by omega)
      exact this
    · rw [hS4.2 (a + p) (by omega)]
      exact hT3 p q' h1 h2 h3
end Go.Proofs.Ytjfmiohgkcjdnaa

/- Sorting by a comparison: patterns are broken. -/
namespace Go.Proofs.Ytjfmiohgkcjdnaa
open Go Go.Proofs.Ytjfmiohgkcjdnaa.AX

def lenN (n : Nat) : Nat := if n < 1 then 0 else if n < 2 then 1 else if n < 4 then 2 else if n < 8 then 3 else if n < 16 then 4 else if n < 32 then 5 else if n < 64 then 6 else 7
theorem len_all : (List.range 128).all (fun s => match callN (runZ cx 300) 94 [.int .u64 (.ofNat s)] [] with | some (.int .i64 m, []) => ieq m (.ofNat (lenN s)) | _ => false) = true := by kernel_rfl
theorem Len_ac (n : Nat) (H : AH) (Q : AV → AH → Prop) (hn : n < 128) (h : Q (.int .i64 (lenN n)) H) : AC Try.prog 94 [.int .u64 n] H Q := by
  have := List.all_eq_true.1 len_all n (List.mem_range.2 hn)
  split at this
  · rename_i m hr
    rw [ieq_eq, beq_iff_eq] at this
    subst this
    exact AC_kernZ cx_ok 300 hr (.cons (.int _ _) .nil) (.int _ _) h
  · cases this
theorem pow_len {n : Nat} (h1 : 1 ≤ n) (h2 : n < 128) : 2 ^ lenN n ≤ 2 * n ∧ 1 ≤ 2 ^ lenN n ∧ lenN n ≤ 7 := by
  unfold lenN
  repeat' split
  all_goals omega
@[simp] theorem cv3101 (n : Nat) (hn : n ≤ 1000000) : aConv Try.prog 3 101 (.int .i64 n) = some (.int .u64 n) := by
  rw [cv_int (by kernel_rfl) (by kernel_rfl) n, wrap_u64 (by omega)]
theorem cv1013 (n : Nat) (hn : n ≤ 1000000) : aConv Try.prog 101 3 (.int .u64 n) = some (.int .i64 n) := by
  rw [cv_int (by kernel_rfl) (by kernel_rfl) n, wrap_i64 (by omega)]
theorem cv3121 (n : Nat) (hn : n ≤ 1000000) : aConv Try.prog 3 121 (.int .i64 n) = some (.int .u64 n) := by
  rw [cv_int (by kernel_rfl) (by kernel_rfl) n, wrap_u64 (by omega)]
theorem nextPow_ac (n : Nat) (H : AH) (Q : AV → AH → Prop) (h1 : 1 ≤ n) (hn : n < 128) (h : Q (.int .u64 (2 ^ lenN n : Nat)) H) : AC Try.prog 119 [.int .i64 n] H Q := by
  refine L_body 7 Try.func119 rfl rfl ?_
  refine L_reg [0] (fun K hK => ?_)
  simp
  apply hK; clear hK K
  have := pow_len h1 hn
  refine L_reg [2] (fun K hK => ?_)
  simp [okFn_low, cv3101 n (by omega)]
  refine Len_ac n H _ hn ?_
  simp [n_shl64' (lenN n) (by omega)]
  apply hK; clear hK K
  exact L_ret ⟨.inr rfl, _, rfl, by simpa using h⟩
theorem sc121 : scal Try.prog 121 = true := by kernel_rfl
theorem zt121 : zeroT Try.prog 121 = some [.int .u64 0] := by kernel_rfl
@[simp] theorem ld121 (H : AH) (r off ver : Nat) : loadV Try.prog 121 H (.ptr r off ver) = ld H r off ver := ld_sc sc121 ..
theorem st121 {H : AH} {p s : Nat} {x : Int} (h : H[p]? = some (.row [.int .u64 x] 0 s false)) (z : Int) : storeV Try.prog 121 H (.ptr p 0 0) (.int .u64 z) = some (none, H.set p (.row [.int .u64 z] 0 0 false)) := by
  have := store_row (P := Try.prog) (u := 121) (p := 0) sc121 (x := .int .u64 z) (y := .int .u64 x) rfl h rfl
  simpa using this
theorem next_ac (p s : Nat) (x : Int) (H : AH) (Q : AV → AH → Prop) (hr : H[p]? = some (.row [.int .u64 x] 0 s false)) (h : ∀ (y : Int) (H' : AH), H'[p]? = some (.row [.int .u64 y] 0 0 false) → KeepX p H H' → Q (.int .u64 y) H') : AC Try.prog 120 [.ptr p 0 0] H Q := by
  refine L_body 33 Try.func120 rfl rfl ?_
  have e1 : ld H p 0 0 = some (.int .u64 x) := by rw [ld_row hr]; rfl
  refine L_reg [0] (fun K hK => ?_)
  simp
  apply hK; clear hK K
  refine L_regT mixed [0] (by kernel_rfl) (fun K hK => ?_)
  simp [aNil, e1, st121 hr]
  apply hK; clear hK K
  generalize IntKind.u64.wrap _ = y1
  have r1 := get_set (o' := AObj.row [.int .u64 y1] 0 0 false) hr
  have k1 := (KeepX.refl p H).set (AObj.row [.int .u64 y1] 0 0 false)
  generalize H.set p (AObj.row [.int .u64 y1] 0 0 false) = H1 at r1 k1 ⊢
  have e2 : ld H1 p 0 0 = some (.int .u64 y1) := by rw [ld_row r1]; rfl
  refine L_regT mixed [0] (by kernel_rfl) (fun K hK => ?_)
  simp [aNil, e2, st121 r1]
  apply hK; clear hK K
  generalize IntKind.u64.wrap _ = y2
  have r2 := get_set (o' := AObj.row [.int .u64 y2] 0 0 false) r1
  have k2 := k1.set (AObj.row [.int .u64 y2] 0 0 false)
  generalize H1.set p (AObj.row [.int .u64 y2] 0 0 false) = H2 at r2 k2 ⊢
  have e3 : ld H2 p 0 0 = some (.int .u64 y2) := by rw [ld_row r2]; rfl
  refine L_regT mixed [0] (by kernel_rfl) (fun K hK => ?_)
  simp [aNil, e3, st121 r2]
  apply hK; clear hK K
  generalize IntKind.u64.wrap _ = y3
  have r3 := get_set (o' := AObj.row [.int .u64 y3] 0 0 false) r2
  have k3 := k2.set (AObj.row [.int .u64 y3] 0 0 false)
  generalize H2.set p (AObj.row [.int .u64 y3] 0 0 false) = H3 at r3 k3 ⊢
  have e4 : ld H3 p 0 0 = some (.int .u64 y3) := by rw [ld_row r3]; rfl
  refine L_reg [2] (fun K hK => ?_)
  simp [aNil, e4]
  apply hK; clear hK K
  exact L_ret ⟨.inr rfl, _, rfl, h _ _ r3 k3⟩
theorem and_low {P : Program} {t : TypeId} {l : Bool} (y : Int) (m : Nat) (_hm : m ≤ 1000000) : ∃ z : Nat, z ≤ m ∧ binV P .and t l (.int .u64 y) (.int .u64 (m : Int)) = some (.int .u64 (z : Nat)) := by
  refine ⟨(BitVec.ofInt 64 y &&& BitVec.ofInt 64 (m : Int)).toNat, ?_, ?_⟩
  · rw [BitVec.toNat_and]
    refine Nat.le_trans Nat.and_le_right ?_
    rw [ofInt_nat, BitVec.toNat_ofNat]
    exact Nat.mod_le _ _
  · rw [b_and]
    congr 2
    exact wrapN64 (BitVec.isLt _)
set_option maxRecDepth 100000 in
theorem break_ac (cv : AV) (r ver a l : Nat) (c : List Int) (H : AH) (Q : AV → AH → Prop) (hr : Rw r ver H c) (hrl : r < H.length) (hlen : c.length ≤ 127) (hl : 12 < l) (hb : a + l ≤ c.length)
    (h : ∀ (H' : AH) (m : List Int), Shuf a (a + l) c m → Rw r ver H' m → KeepX r H H' → Q (.tuple []) H') : AC Try.prog 101 [.slice (some r) 0 c.length ver 1 false, .int .i64 a, .int .i64 (a + l : Nat), cv] H Q := by
  refine L_body 67 Try.func101 rfl rfl ?_
  have hq : ((l : Int)).tdiv 4 = ((l / 4 : Nat) : Int) := by rw [Int.tdiv_eq_ediv_of_nonneg (by omega)]; rfl
  obtain ⟨q, hq0⟩ : ∃ q, q = l / 4 := ⟨_, rfl⟩
  rw [← hq0] at hq
  obtain ⟨j0, hj0⟩ : ∃ i : Nat, (a : Int) + (q : Int) * 2 = i := ⟨a + q * 2, by omega⟩
  obtain ⟨i0, hi0⟩ : ∃ i : Nat, (j0 : Int) - 1 = i := ⟨j0 - 1, by omega⟩
  generalize hn : c.length = n at *
  refine L_reg [0, 1, 8] (fun K hK => ?_)
  simp [show ((a : Int) + l - a) = l by omega, wrap_i64 (a := (l : Int)) (by omega)]
  apply hK; clear hK K
  refine L_reg [0, 1, 8, 17] (fun K hK => ?_)
  simp
  apply hK; clear hK K
  refine L_true (by simp; omega) ?_
  have hsv : ∀ x : Int, storeV Try.prog 121 (H ++ [AObj.row [.int .u64 0] 0 0 false]) (.ptr H.length 0 0) (.int .u64 x) = some (none, H ++ [.row [.int .u64 x] 0 0 false]) := fun x => store_last sc121 (y := .int .u64 0) rfl rfl
  refine L_reg [0, 1, 8, 9] (fun K hK => ?_)
  simp [cv3121 l (by omega), alloc_z zt121, hsv]
  apply hK; clear hK K
  have hK1 : KeepX r H (H ++ [AObj.row [.int .u64 l] 0 0 false]) := (KeepX.refl r H).ext (.push _ _)
  have hr1 := hr.ext (.push H [AObj.row [.int .u64 l] 0 0 false])
  have hx1 : (H ++ [AObj.row [.int .u64 l] 0 0 false])[H.length]? = some (.row [.int .u64 l] 0 0 false) := by simp
  generalize H ++ [AObj.row [.int .u64 l] 0 0 false] = H1 at hK1 hr1 hx1 ⊢
  generalize hp : H.length = p at *
  have hpl := pow_len (n := l) (by omega) (by omega)
  refine L_reg [0, 1, 8, 9, 10] (fun K hK => ?_)
  simp [okFn_low]
  refine nextPow_ac l H1 _ (by omega) (by omega) ?_
  generalize 2 ^ lenN l = md at hpl ⊢
  simp
  apply hK; clear hK K
  refine L_reg [0, 1, 8, 9, 10, 11] (fun K hK => ?_)
  simp [hq, wrap_i64 (a := (q : Int)) (by omega), wrap_i64 (a := (q : Int) * 2) (by omega), hj0, wrap_i64 (a := (j0 : Int)) (by omega), hi0, wrap_i64 (a := (i0 : Int)) (by omega)]
  apply hK; clear hK K
  refine L_block (L_loopV [11] (fun k vs H' => ∃ (i : Nat) (d : List Int) (x : Int) (s : Nat), k = j0 + 2 - i ∧ i0 ≤ i ∧ i ≤ j0 + 2 ∧ Shuf a (a + l) c d ∧ vs = [.int .i64 i] ∧ Rw r ver H' d ∧ KeepX r H H' ∧ H'[p]? = some (.row [.int .u64 x] 0 s false)) _ [.int .i64 i0] rfl ⟨i0, c, l, 0, rfl, by omega, by omega, .refl _ _ _, rfl, hr1, hK1, hx1⟩ ?_)
  clear hr1 hK1 hx1 H1
  rintro k _ H1 ⟨i, d, x, s, rfl, hi1, hi2, hS, rfl, hrow, hK, hx⟩
  have hdl : d.length = n := by rw [hS.len]; exact hn
  refine L_reg [0, 1, 8, 9, 10, 11, 35] (fun K hK => ?_)
  simp [hq, wrap_i64 (a := (q : Int)) (by omega), wrap_i64 (a := (q : Int) * 2) (by omega), hj0, wrap_i64 (a := (j0 : Int)) (by omega), wrap_i64 (a := (j0 : Int) + 1) (by omega)]
  apply hK; clear hK K
  refine L_dec ((i : Int) ≤ j0 + 1) (by simp) (fun hlt => ?_) (fun hge => L_exit ?_)
  · refine L_block ?_
    refine L_reg [0, 1, 8, 9, 10, 11, 12] (fun K hK0 => ?_)
    simp [okFn_low]
    refine next_ac p s x H1 _ hx (fun y H2 hy hK2 => ?_)
    have hmd : IntKind.u64.wrap ((md : Int) - 1) = ((md - 1 : Nat) : Int) := by rw [wrap_u64 (by omega)]; omega
    obtain ⟨m1, hm1⟩ : ∃ m1 : Nat, md - 1 = m1 := ⟨_, rfl⟩
    rw [hm1] at hmd
    obtain ⟨z, hz, hand⟩ := and_low (P := Try.prog) (t := 101) (l := (litOp (.tmp 38) || litOp (.tmp 40))) y m1 (by omega)
    simp [hmd, hand, cv1013 z (by omega)]
    apply hK0; clear hK0 K
    have hrow2 : Rw r ver H2 d := by
      obtain ⟨s', h'⟩ := hrow
      exact ⟨s', hK2.row (by omega) h'⟩
    have hK12 : KeepX r H H2 := ⟨Nat.le_trans hK.1 hK2.1, fun j j1 j2 => by rw [hK2.2 j (by omega) (by have := hK.1; omega), hK.2 j j1 j2]⟩
    refine L_reg [0, 1, 8, 9, 10, 11, 12, 45] (fun K hK => ?_)
    simp
    apply hK; clear hK K
    refine L_condK [0, 1, 8, 9, 10, 11, 12] (fun e' H' => ∃ o : Nat, o < l ∧ e' = [(0, .slice (some r) 0 n ver 1 false), (1, .int .i64 a), (8, .int .i64 l), (9, .ptr p 0 0), (10, .int .u64 md), (11, .int .i64 i), (12, .int .i64 (o : Nat))] ∧ H2 = H') (t := decide (l ≤ z)) (by simp) (fun ht => ?_) (fun ht => ?_) ?_
    · have hle : l ≤ z := of_decide_eq_true ht
      obtain ⟨o, ho⟩ : ∃ o : Nat, (z : Int) - l = o := ⟨z - l, by omega⟩
      refine L_reg [0, 1, 8, 9, 10, 11, 12] (fun K hK => ?_)
      simp [ho, wrap_i64 (a := (o : Int)) (by omega)]
      apply hK; clear hK K
      exact ⟨o, by omega, by simp, rfl⟩
    · exact ⟨z, by have := of_decide_eq_false ht; omega, by simp, rfl⟩
    rintro _ _ ⟨o, hol, rfl, rfl⟩
    obtain ⟨ib, hib⟩ : ∃ ix : Nat, (a : Int) + o = ix := ⟨a + o, by omega⟩
    have h1 := hrow2.ld (i := i) (by omega)
    have h2 := hrow2.ld (i := ib) (by omega)
    have ga : i < n := by omega
    have gb : ib < n := by omega
    obtain ⟨H3, H4, e1, e2, e3, e4⟩ := hrow2.swap (i := i) (j := ib) (by omega) (by omega)
    refine L_regT mixed [0, 1, 8, 9, 10, 11] (by kernel_rfl) (fun K hK => ?_)
    simp [hib, ga, gb, h1, h2, e1, e2, wrap_i64 (a := (ib : Int)) (by omega)]
    apply hK; clear hK K
    refine L_reg [0, 1, 8, 9, 10, 11] (fun K hK => ?_)
    simp [wrap_i64 (a := (i : Int) + 1) (by omega)]
    apply hK; clear hK K
    exact ⟨j0 + 2 - (i + 1), [.int .i64 (i + 1 : Nat)], by omega, by simp, i + 1, _, y, 0, rfl, by omega, by omega, hS.trans (.swap (by omega) (by omega) (by omega)), rfl, e3, hK12.trans e4, e4.row (by omega) hy⟩
  · exact ⟨.inl rfl, _, rfl, h H1 d hS hrow hK⟩
end Go.Proofs.Ytjfmiohgkcjdnaa
